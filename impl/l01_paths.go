package impl

import (
	"slices"
	"strings"
)

const (
	MaxPart  = 8
	MaxDepth = 4
)

func PartOK(t string) bool {
	if t == "" || len(t) > MaxPart || t == "." || t == ".." {
		return false
	}
	// A byte above 127 is never a rune from 33 to 126, so runes can stand for bytes here.
	for _, c := range t {
		if c < 33 || c > 126 || c == '/' {
			return false
		}
	}
	return true
}

func PathOK(t string) bool {
	return splitPath(t) != nil
}

// splitPath returns nil if t is not a path; a path has at least one part, so nil is never the answer for one.
func splitPath(t string) []string {
	var parts []string
	rest := t
nextPart:
	for len(parts) < MaxDepth {
		for i, c := range rest {
			if c != '/' {
				continue
			}
			if !PartOK(rest[:i]) {
				return nil
			}
			parts = append(parts, rest[:i])
			rest = rest[i+1:]
			continue nextPart
		}
		if !PartOK(rest) {
			return nil
		}
		return append(parts, rest)
	}
	return nil
}

func PartsOf(t string) ([]string, int) {
	if longText(t) {
		return nil, ErrLong
	}
	parts := splitPath(t)
	if parts == nil {
		return nil, ErrName
	}
	return parts, OK
}

func ParentOf(t string) (string, int) {
	parts, code := PartsOf(t)
	if code != OK {
		return "", code
	}
	return strings.Join(parts[:len(parts)-1], "/"), OK
}

// pathsAbove returns the parent of a path, the parent of that and so on without the root, the highest one first.
func pathsAbove(path string) []string {
	parts := splitPath(path)
	var above []string
	for i := 1; i < len(parts); i++ {
		above = append(above, strings.Join(parts[:i], "/"))
	}
	return above
}

// PathLess compares part by part, because '/' is not the least byte of a path: "a/b" precedes "a.b".
func PathLess(a, b string) bool {
	p, q := splitPath(a), splitPath(b)
	return p != nil && q != nil && slices.Compare(p, q) < 0
}

func IsBelow(a, b string) bool {
	p, q := splitPath(a), splitPath(b)
	if b != "" && q == nil {
		return false
	}
	return len(p) > len(q) && slices.Equal(p[:len(q)], q)
}

func JoinPath(dir, part string) (string, int) {
	if longText(dir) || longText(part) {
		return "", ErrLong
	}
	parents := splitPath(dir)
	if dir != "" && parents == nil || !PartOK(part) {
		return "", ErrName
	}
	if len(parents) == MaxDepth {
		return "", ErrMany
	}
	return strings.Join(append(parents, part), "/"), OK
}
