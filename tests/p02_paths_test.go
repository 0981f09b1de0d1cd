package tests

import (
	"slices"
	"strings"
	"testing"

	"loop.example/g00798/impl"
)

// partByRule and pathByRule follow the wording of chapter 2, in another way than the program does.
func partByRule(s string) bool {
	for i := range len(s) {
		if s[i] < 33 || s[i] > 126 || s[i] == '/' {
			return false
		}
	}
	return len(s) >= 1 && len(s) <= 8 && s != "." && s != ".."
}

func pathByRule(s string) bool {
	parts := strings.Split(s, "/")
	return len(parts) <= 4 && !slices.ContainsFunc(parts, func(p string) bool { return !partByRule(p) })
}

// paths returns many paths, of 1 to MaxDepth parts, with bytes on both sides of '/'.
func paths() []string {
	var all []string
	level := []string{""}
	for range impl.MaxDepth {
		var next []string
		for _, dir := range level {
			for _, part := range []string{"!", "a", "a.", "~"} {
				next = append(next, strings.TrimPrefix(dir+"/"+part, "/"))
			}
		}
		all = append(all, next...)
		level = next
	}
	return append(all, "...", ".../...", "a!", "a.b", "a.b/a", "a/b", "a0", "a0/a", "ab", "b", "longnam", "longname", "longname/longname/longname/longname")
}

// notPaths returns strings that are not paths, the root among them.
func notPaths() []string {
	return []string{"", "/", "//", "/a", "a/", "a//b", "a/b/", "/a/b", "a/b/c/d/", "a/b/c//d", "a/b/c/d/e", "a/b/c/d/e/f", ".", "..", "a/.", "a/..",
		"./a", "../a", "a/../b", "a b", "a/b c", " a", "a ", "a\x7f", "a/\x1f", "a\x80", "é", "a/\xff", "longname1", "a/longname1", "longname1/a", "a\n"}
}

func TestEveryByteOfAPart(t *testing.T) {
	for b := range 256 {
		c := string([]byte{byte(b)})
		inside := b >= 33 && b <= 126 && c != "/"
		if got := impl.PartOK(c); got != (inside && c != ".") {
			t.Errorf("PartOK of the byte %d is %v", b, got)
		}
		for _, part := range []string{"a" + c, c + "a", "a" + c + "a"} {
			if got := impl.PartOK(part); got != inside {
				t.Errorf("PartOK(%q) = %v", part, got)
			}
		}
	}
}

func TestPartsOfEveryLength(t *testing.T) {
	for n := range 20 {
		want := n >= 1 && n <= 8
		if got := impl.PartOK(strings.Repeat("a", n)); got != want {
			t.Errorf("PartOK of %d letters is %v", n, got)
		}
		if got := impl.PartOK(strings.Repeat(".", n)); got != (want && n > 2) {
			t.Errorf("PartOK of %d periods is %v", n, got)
		}
		// The length counts bytes, and the bytes of other letters are not from 33 to 126.
		if impl.PartOK(strings.Repeat("é", n)) {
			t.Errorf("PartOK accepts %d letters of two bytes", n)
		}
	}
	for _, part := range []string{".a", "a.", "..a", "a..", ".!", "!.", "a.b", "-", "%", "~!"} {
		if !impl.PartOK(part) {
			t.Errorf("PartOK(%q) is false", part)
		}
	}
}

func TestPathsAndOtherStrings(t *testing.T) {
	for _, path := range paths() {
		if !impl.PathOK(path) {
			t.Errorf("PathOK(%q) is false", path)
		}
	}
	for _, s := range notPaths() {
		if impl.PathOK(s) {
			t.Errorf("PathOK(%q) is true", s)
		}
		if parts, code := impl.PartsOf(s); len(parts) != 0 || code != impl.ErrName {
			t.Errorf("PartsOf(%q) = %q, %d", s, parts, code)
		}
		if parent, code := impl.ParentOf(s); parent != "" || code != impl.ErrName {
			t.Errorf("ParentOf(%q) = %q, %d", s, parent, code)
		}
	}
}

func TestAllShortStrings(t *testing.T) {
	for _, s := range stringsOver("a./ ~", 7) {
		if got, want := impl.PartOK(s), partByRule(s); got != want {
			t.Errorf("PartOK(%q) = %v", s, got)
		}
		if got, want := impl.PathOK(s), pathByRule(s); got != want {
			t.Errorf("PathOK(%q) = %v", s, got)
		}
	}
}

func TestAPathIsItsParentAndOnePart(t *testing.T) {
	for _, path := range paths() {
		parts, code := impl.PartsOf(path)
		if code != 0 || !slices.Equal(parts, strings.Split(path, "/")) {
			t.Errorf("PartsOf(%q) = %q, %d", path, parts, code)
			continue
		}
		last := parts[len(parts)-1]
		parent, code := impl.ParentOf(path)
		if code != 0 || parent != strings.TrimSuffix(strings.TrimSuffix(path, last), "/") {
			t.Errorf("ParentOf(%q) = %q, %d", path, parent, code)
		}
		if (parent == "") != (len(parts) == 1) || parent != "" && !impl.PathOK(parent) {
			t.Errorf("the parent of %q is %q", path, parent)
		}
		if joined, code := impl.JoinPath(parent, last); joined != path || code != 0 {
			t.Errorf("JoinPath(%q, %q) = %q, %d", parent, last, joined, code)
		}
		if !impl.IsBelow(path, parent) || impl.IsBelow(parent, path) {
			t.Errorf("%q is not below its parent", path)
		}
	}
}

func TestJoinPath(t *testing.T) {
	dirs := append(paths(), notPaths()...)
	parts := []string{"a", "...", "longname", "", ".", "..", "a/b", "/", "a/", "/a", "longname1", "a b", "\x7f", "é"}
	for _, dir := range dirs {
		for _, part := range parts {
			want, wantCode := strings.TrimPrefix(dir+"/"+part, "/"), 0
			if dir != "" && !pathByRule(dir) || !partByRule(part) {
				want, wantCode = "", impl.ErrName
			} else if strings.Count(dir, "/") == 3 {
				want, wantCode = "", impl.ErrMany
			}
			if got, code := impl.JoinPath(dir, part); got != want || code != wantCode {
				t.Errorf("JoinPath(%q, %q) = %q, %d, want %q, %d", dir, part, got, code, want, wantCode)
			}
		}
	}
}

func TestErrNamePrecedesErrMany(t *testing.T) {
	for _, v := range []struct {
		dir, part string
		code      int
	}{
		{"a/b/c/d", "e", impl.ErrMany},
		{"a/b/c/d", "..", impl.ErrName},
		{"a/b/c/d", "", impl.ErrName},
		{"a/b/c/d", "e/f", impl.ErrName},
		{"a/b/c/d/e", "f", impl.ErrName},
		{"a/b/c/", "d", impl.ErrName},
		{"/", "a", impl.ErrName},
		{"", "", impl.ErrName},
	} {
		if path, code := impl.JoinPath(v.dir, v.part); path != "" || code != v.code {
			t.Errorf("JoinPath(%q, %q) = %q, %d, want the code %d", v.dir, v.part, path, code, v.code)
		}
	}
}

func TestPathLessExamples(t *testing.T) {
	order := []string{"!", "!/~", "-", "...", "a", "a/!", "a/a", "a/b", "a/b/c", "a/b/c/d", "a/b.c", "a/c", "a!", "a!/b", "a.b", "a.b/a", "a0", "aa", "b"}
	for i, a := range order {
		for k, b := range order {
			if got := impl.PathLess(a, b); got != (i < k) {
				t.Errorf("PathLess(%q, %q) = %v", a, b, got)
			}
		}
	}
}

func TestPathLessIsAStrictTotalOrder(t *testing.T) {
	all := paths()
	less := make([][]bool, len(all))
	for i, a := range all {
		less[i] = make([]bool, len(all))
		for k, b := range all {
			less[i][k] = impl.PathLess(a, b)
		}
	}
	for i, a := range all {
		for k, b := range all {
			one, two := less[i][k], less[k][i]
			if one && two || a == b && one || a != b && !one && !two {
				t.Errorf("PathLess(%q, %q) = %v, and reversed %v", a, b, one, two)
			}
			if !one {
				continue
			}
			for j, c := range all {
				if less[k][j] && !less[i][j] {
					t.Errorf("%q, %q and %q are not in order", a, b, c)
				}
			}
		}
	}
}

// In increasing order, the paths below a path are the ones that come directly after it.
func TestThePathsBelowAPathFollowIt(t *testing.T) {
	all := paths()
	slices.SortFunc(all, func(a, b string) int {
		switch {
		case impl.PathLess(a, b):
			return -1
		case impl.PathLess(b, a):
			return 1
		}
		return 0
	})
	all = slices.Compact(all)
	for i, dir := range all {
		end := i + 1
		for end < len(all) && strings.HasPrefix(all[end], dir+"/") {
			end++
		}
		for k, path := range all {
			if got := impl.IsBelow(path, dir); got != (k > i && k < end) {
				t.Errorf("IsBelow(%q, %q) = %v, at places %d and %d", path, dir, got, k, i)
			}
		}
	}
}

func TestIsBelow(t *testing.T) {
	for _, a := range paths() {
		if !impl.IsBelow(a, "") || impl.IsBelow("", a) || impl.IsBelow(a, a) {
			t.Errorf("IsBelow is wrong for %q with the root or itself", a)
		}
		for _, b := range paths() {
			if got := impl.IsBelow(a, b); got != strings.HasPrefix(a, b+"/") {
				t.Errorf("IsBelow(%q, %q) = %v", a, b, got)
			}
		}
	}
}

// What is not a path is neither less nor below, whatever the other argument is.
func TestComparisonsOfStringsThatAreNotPaths(t *testing.T) {
	for _, bad := range notPaths() {
		for _, other := range append(paths(), notPaths()...) {
			if impl.PathLess(bad, other) || impl.PathLess(other, bad) {
				t.Errorf("PathLess accepts %q beside %q", bad, other)
			}
			if impl.IsBelow(bad, other) || bad != "" && impl.IsBelow(other, bad) {
				t.Errorf("IsBelow accepts %q beside %q", bad, other)
			}
		}
	}
}
