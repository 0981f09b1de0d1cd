package tests

import (
	"cmp"
	"fmt"
	"math"
	"slices"
	"strings"
	"testing"

	"loop.example/g00798/impl"
)

func checkLookUp(t *testing.T, list [][]impl.Record, path string, want impl.Node, wantCode int) {
	t.Helper()
	if got, code := impl.LookUp(list, path); got != want || code != wantCode {
		t.Errorf("LookUp(%s, %.40q) = %s, %d, want %s, %d", showStack(list), path, showTree([]impl.Node{got}), code, showTree([]impl.Node{want}), wantCode)
	}
}

func checkReadDir(t *testing.T, list [][]impl.Record, path string, want []string, wantCode int) {
	t.Helper()
	if got, code := impl.ReadDir(list, path); !slices.Equal(got, want) || code != wantCode {
		t.Errorf("ReadDir(%s, %.40q) = %q, %d, want %q, %d", showStack(list), path, got, code, want, wantCode)
	}
}

func checkReadFile(t *testing.T, list [][]impl.Record, path string, off, n int, want string, wantCode int) {
	t.Helper()
	if got, code := impl.ReadFile(list, path, off, n); got != want || code != wantCode {
		t.Errorf("ReadFile(%s, %.40q, %d, %d) = %q, %d, want %q, %d", showStack(list), path, off, n, got, code, want, wantCode)
	}
}

func checkReadLink(t *testing.T, list [][]impl.Record, path string, want string, wantCode int) {
	t.Helper()
	if got, code := impl.ReadLink(list, path); got != want || code != wantCode {
		t.Errorf("ReadLink(%s, %.40q) = %q, %d, want %q, %d", showStack(list), path, got, code, want, wantCode)
	}
}

func checkWalk(t *testing.T, list [][]impl.Record, path string, want []string, wantCode int) {
	t.Helper()
	if got, code := impl.Walk(list, path); !slices.Equal(got, want) || code != wantCode {
		t.Errorf("Walk(%s, %.40q) = %q, %d, want %q, %d", showStack(list), path, got, code, want, wantCode)
	}
}

func checkLayerNumber(t *testing.T, list [][]impl.Record, path string, want, wantCode int) {
	t.Helper()
	if got, code := impl.LayerOf(list, path); got != want || code != wantCode {
		t.Errorf("LayerOf(%s, %.40q) = %d, %d, want %d, %d", showStack(list), path, got, code, want, wantCode)
	}
}

// seenByRule returns what a view has at a path or at the root, or the code of resolving it.
func seenByRule(view []impl.Node, path string) (impl.Node, int) {
	if path == "" {
		return impl.Node{Kind: 3}, 0
	}
	return resolveByRule(view, path)
}

// belowByRule returns the paths of a view below a path or the root, in the order of the view.
func belowByRule(view []impl.Node, path string) []string {
	var out []string
	for _, n := range view {
		if path == "" || strings.HasPrefix(n.Path, path+"/") {
			out = append(out, n.Path)
		}
	}
	return out
}

// bytesByRule takes the bytes of a body one by one; neither off nor n is negative.
func bytesByRule(body string, off, n int) string {
	var out []byte
	for i := range len(body) {
		if i >= off && i-off < n {
			out = append(out, body[i])
		}
	}
	return string(out)
}

// resolvedByRule resolves a path in the layers and not in the view: it returns the winner, its layer and the code, and in words why it stops.
func resolvedByRule(list [][]impl.Record, path string) (impl.Record, int, int, string) {
	parts := strings.Split(path, "/")
	for i := range parts {
		at := strings.Join(parts[:i+1], "/")
		r, number := winnerByRule(list, at)
		last := i == len(parts)-1
		switch {
		case number == 0 && lastWith(list, at) > 0:
			return impl.Record{}, 0, impl.ErrNone, "cut off"
		case number == 0:
			return impl.Record{}, 0, impl.ErrNone, "missing"
		case r.Kind == 4:
			return impl.Record{}, 0, impl.ErrNone, "a whiteout"
		case r.Kind != 3 && !last:
			return impl.Record{}, 0, impl.ErrNotDir, []string{"", "below a file", "below a link"}[r.Kind]
		case last:
			return r, number, 0, []string{"", "a file", "a link", "a directory"}[r.Kind]
		}
	}
	panic("a path without parts")
}

// checkAsked is promise 13 for a path of a stack, or for the root: every query against the view, and the layer against the layers themselves.
func checkAsked(t *testing.T, list [][]impl.Record, view []impl.Node, path string) string {
	t.Helper()
	n, code := seenByRule(view, path)
	checkLookUp(t, list, path, n, code)
	number, why := 0, "the root"
	if path != "" {
		var r impl.Record
		var ruleCode int
		r, number, ruleCode, why = resolvedByRule(list, path)
		if nodeOf(r) != n || ruleCode != code || code == 0 && number != lastWith(list, path) {
			t.Fatalf("the rules of this test differ at %s in %s", path, showStack(list))
		}
	}
	checkLayerNumber(t, list, path, number, code)
	dirCode, linkCode := code, code
	if code == 0 && n.Kind != 3 {
		dirCode = impl.ErrNotDir
	}
	if code == 0 && n.Kind != 2 {
		linkCode = impl.ErrKind
	}
	var names, below []string
	if dirCode == 0 {
		names, _ = listByRule(view, path)
		below = belowByRule(view, path)
	}
	checkReadDir(t, list, path, names, dirCode)
	checkWalk(t, list, path, below, dirCode)
	target := ""
	if linkCode == 0 {
		target = n.Body
	}
	checkReadLink(t, list, path, target, linkCode)
	checkAskedBytes(t, list, path, n, code)
	return why
}

// checkAskedBytes reads a few parts of what is at a path, which is a node or the code of resolving.
func checkAskedBytes(t *testing.T, list [][]impl.Record, path string, n impl.Node, code int) {
	t.Helper()
	for _, place := range [][2]int{{0, impl.MaxBody}, {1, 1}, {-1, 1}} {
		want, wantCode := "", cmp.Or(code, []int{0, 0, impl.ErrKind, impl.ErrIsDir}[n.Kind])
		if wantCode == 0 && place[0] < 0 {
			wantCode = impl.ErrRange
		}
		if wantCode == 0 {
			want = bytesByRule(n.Body, place[0], place[1])
		}
		checkReadFile(t, list, path, place[0], place[1], want, wantCode)
	}
}

// asked returns the root, every path of any layer, and paths that no layer has.
func asked(list [][]impl.Record) []string {
	return append(append([]string{""}, pathsByRule(list)...), otherPaths()...)
}

func TestQueriesOfSomeStacks(t *testing.T) {
	lengths, seen := map[int]int{}, map[string]int{}
	for _, list := range mergeStacks(150) {
		lengths[len(list)]++
		view, code := impl.ViewOf(list)
		if code != 0 || !slices.Equal(view, afterAllByRule(list, nil)) {
			t.Fatalf("ViewOf(%s) = %s, %d", showStack(list), showTree(view), code)
		}
		for _, path := range asked(list) {
			seen[checkAsked(t, list, view, path)]++
		}
	}
	for _, why := range []string{"the root", "a file", "a link", "a directory", "missing", "cut off", "a whiteout", "below a file", "below a link"} {
		if seen[why] < 50 {
			t.Errorf("the cases of this test are %v", seen)
		}
	}
	if len(lengths) != 6 {
		t.Errorf("the numbers of layers in this test are %v", lengths)
	}
}

func TestQueriesOfEveryPairOfLayersOfAChain(t *testing.T) {
	layers := chainLayers()
	paths := append(chainPaths(), "", "a/x", "a/b/x", "a/b/c/x", "x/b")
	for i, lower := range layers {
		for k, upper := range layers {
			list := numbered(stack(lower, upper))
			view := afterAllByRule(list, nil)
			for at := range 3 {
				checkAsked(t, list, view, paths[(i+k+3*at)%len(paths)])
			}
		}
	}
}

// Walk of a directory is what ReadDir of it and of each directory below it returns; Walk of the root is the whole view.
func TestWalksAreReadDirsBelowOneAnother(t *testing.T) {
	full := stack(inDir("d", "P", 15), inDir("d", "Q", 15), inDir("d", "R", 15), inDir("e", "S", 15), filesAt("T", 16))
	most := 0
	for _, list := range append(mergeStacks(120), full) {
		all, code := impl.Walk(list, "")
		if view, _ := impl.ViewOf(list); code != 0 || !slices.Equal(all, belowByRule(view, "")) {
			t.Errorf("Walk(%s, root) = %q, %d, but the view is %s", showStack(list), all, code, showTree(view))
		}
		for _, dir := range append([]string{""}, all...) {
			if n, _ := impl.LookUp(list, dir); n.Kind == impl.KindDir {
				checkWalk(t, list, dir, walkByDirs(list, dir), 0)
			}
		}
		most = max(most, len(all))
	}
	if most <= impl.MaxNodes {
		t.Errorf("the views of this test have at most %d nodes", most)
	}
}

func walkByDirs(list [][]impl.Record, dir string) []string {
	var out []string
	names, _ := impl.ReadDir(list, dir)
	for _, name := range names {
		path := strings.TrimPrefix(dir+"/"+name, "/")
		out = append(append(out, path), walkByDirs(list, path)...)
	}
	return out
}

// answers prints what all queries but LayerOf say of a path.
func answers(list [][]impl.Record, path string) string {
	n, code := impl.LookUp(list, path)
	names, dirCode := impl.ReadDir(list, path)
	body, bodyCode := impl.ReadFile(list, path, 0, impl.MaxBody)
	part, partCode := impl.ReadFile(list, path, 1, 1)
	target, linkCode := impl.ReadLink(list, path)
	below, walkCode := impl.Walk(list, path)
	return fmt.Sprintf("%q", []any{n, code, names, dirCode, body, bodyCode, part, partCode, target, linkCode, below, walkCode})
}

// Replaced layers are one layer, so that the numbers of those above change, and nothing else.
func TestQueriesBeforeAndAfterReplaced(t *testing.T) {
	middle := map[int]int{}
	for _, list := range append(mergeStacks(50), stack(layer(dir("a", 1), file("a/b", "x", 2)), layer(opaque("a", 3)), layer(dir("a", 4), link("a/c", "y")), layer(white("b")))) {
		before := map[string]string{}
		for _, path := range asked(list) {
			before[path] = answers(list, path)
		}
		for from := range len(list) + 1 {
			for to := from; to <= len(list); to++ {
				replaced, code := impl.Replaced(list, from, to)
				if code != 0 {
					continue
				}
				for path, want := range before {
					if got := answers(replaced, path); got != want {
						t.Errorf("at %q in %s the queries say %s, but after Replaced from %d to %d %s", path, showStack(list), want, from, to, got)
					}
					number, code := impl.LayerOf(list, path)
					checkLayerNumber(t, replaced, path, numberAfter(number, from, to), code)
					if number > from && number <= to {
						middle[to-from]++
					}
				}
			}
		}
	}
	for n := 1; n <= 5; n++ {
		if middle[n] < 20 {
			t.Errorf("the numbers of replaced layers that answer in this test are %v", middle)
		}
	}
}

// numberAfter returns the number that a layer has once those from index from up to but not including index to are one layer.
func numberAfter(number, from, to int) int {
	switch {
	case number <= from:
		return number
	case number <= to:
		return from + 1
	}
	return number - (to - from) + 1
}

// checkRoot checks every query of the root; names are the names in it, and below all paths.
func checkRoot(t *testing.T, list [][]impl.Record, names, below []string) {
	t.Helper()
	checkLookUp(t, list, "", impl.Node{Kind: impl.KindDir}, 0)
	checkLayerNumber(t, list, "", 0, 0)
	checkReadDir(t, list, "", names, 0)
	checkWalk(t, list, "", below, 0)
	checkReadLink(t, list, "", "", impl.ErrKind)
	for _, off := range edgeNumbers() {
		for _, n := range edgeNumbers() {
			checkReadFile(t, list, "", off, n, "", impl.ErrIsDir)
		}
	}
}

func edgeNumbers() []int {
	return []int{math.MinInt, math.MinInt + 1, -21, -1, 0, 1, 2, 19, 20, 21, 1 << 32, math.MaxInt - 20, math.MaxInt - 1, math.MaxInt}
}

func TestTheRoot(t *testing.T) {
	for n := range 6 {
		checkRoot(t, make([][]impl.Record, n), nil, nil)
		checkRoot(t, slices.Repeat(stack(whites(16)), n), nil, nil)
	}
	checkRoot(t, stack(nil, nil), nil, nil)
	checkRoot(t, stack(layer(file("a", "", 0))), []string{"a"}, []string{"a"})
	checkRoot(t, stack(layer(opaque("a", 511))), []string{"a"}, []string{"a"})
	checkRoot(t, stack(layer(dir("a", 1), file("a/b", "x", 2)), layer(white("a"))), nil, nil)
	checkRoot(t, stack(layer(white("a")), layer(dir("a", 1), link("a/b", "x")), layer(white("b"))), []string{"a"}, []string{"a", "a/b"})
	checkRoot(t, stack(layer(opaque("a", 1), dir("a/b", 2), dir("a/b/c", 3), file("a/b/c/d", "", 4)), layer(file("c", "", 0)), layer(link("b", "x"))),
		[]string{"a", "b", "c"}, []string{"a", "a/b", "a/b/c", "a/b/c/d", "b", "c"})
}

// checkUnresolved checks that every query returns the same code with zero values, whatever the bytes of a file that are asked for.
func checkUnresolved(t *testing.T, list [][]impl.Record, path string, want int) {
	t.Helper()
	checkLookUp(t, list, path, impl.Node{}, want)
	checkLayerNumber(t, list, path, 0, want)
	checkReadDir(t, list, path, nil, want)
	checkWalk(t, list, path, nil, want)
	checkReadLink(t, list, path, "", want)
	for _, place := range [][2]int{{0, 1}, {0, 0}, {-1, 0}, {0, -1}, {math.MinInt, math.MinInt}, {math.MaxInt, math.MaxInt}} {
		checkReadFile(t, list, path, place[0], place[1], "", want)
	}
}

func TestNothingIsInStacksOfEmptyLayers(t *testing.T) {
	for n := range 6 {
		for _, path := range append(paths(), poolPaths()...) {
			checkUnresolved(t, make([][]impl.Record, n), path, impl.ErrNone)
		}
	}
	checkUnresolved(t, stack(whites(16), nil), "Aa", impl.ErrNone)
	checkUnresolved(t, stack(whites(16), nil), "Aa/b/c/d", impl.ErrNone)
}

// The first part of a path that leads nowhere or to no directory decides about the code, also with more parts behind it.
func TestPathsWhoseParentIsNoDirectory(t *testing.T) {
	for _, v := range []struct {
		parent impl.Record
		code   int
	}{{file("a", "x", 1), impl.ErrNotDir}, {file("a", "", 0), impl.ErrNotDir}, {link("a", "b"), impl.ErrNotDir}, {link("a", "a"), impl.ErrNotDir}, {white("a"), impl.ErrNone}, {white("b"), impl.ErrNone}} {
		for _, above := range []string{"", "p", "p/q"} {
			l := dirsTo(above, 7)
			at := strings.TrimPrefix(above+"/a", "/")
			r := v.parent
			r.Path = strings.TrimPrefix(above+"/"+r.Path, "/")
			l = append(l, r)
			lower := append(dirsTo(at, 1), file(at+"/b", "low", 1))
			for _, list := range [][][]impl.Record{stack(l), stack(l, nil), stack(nil, nil, l, l, nil), stack(whites(16), l)} {
				for _, rest := range []string{"/b", "/a", "/z", "/b/c", "/b/c/d"} {
					if path := at + rest; strings.Count(path, "/") < 4 {
						checkUnresolved(t, list, path, v.code)
					}
				}
			}
			if r.Path == at {
				checkUnresolved(t, stack(lower, l), at+"/b", v.code)
				checkUnresolved(t, stack(lower, lower, l, nil), at+"/b", v.code)
				checkLookUp(t, stack(l, lower), at+"/b", nodeOf(file(at+"/b", "low", 1)), 0)
				checkLayerNumber(t, stack(l, lower), at+"/b", 2, 0)
			}
		}
	}
}

// The parent of the parent is missing or no directory, and the parent itself would give another code.
func TestTheFirstPartThatDoesNotResolveDecides(t *testing.T) {
	lower := layer(dir("a", 1), dir("a/b", 1), file("a/b/f", "x", 1), link("a/b/l", "f"), file("a/f", "x", 1), dir("d", 1))
	for _, v := range []struct {
		upper []impl.Record
		path  string
		code  int
	}{
		{nil, "a/b/f/x", impl.ErrNotDir},
		{nil, "a/b/l/f", impl.ErrNotDir},
		{nil, "a/b/g/x", impl.ErrNone},
		{nil, "a/f/b/f", impl.ErrNotDir},
		{nil, "a/g/b/f", impl.ErrNone},
		{nil, "b/b/f/x", impl.ErrNone},
		{nil, "d/x", impl.ErrNone},
		{nil, "d/x/y/z", impl.ErrNone},
		{layer(white("a")), "a/b/f/x", impl.ErrNone},
		{layer(white("a")), "a", impl.ErrNone},
		{layer(file("a", "", 0)), "a/b/f/x", impl.ErrNotDir},
		{layer(file("a", "", 0)), "a/b/g", impl.ErrNotDir},
		{layer(link("a", "d")), "a/b", impl.ErrNotDir},
		{layer(opaque("a", 0)), "a/b/f/x", impl.ErrNone},
		{layer(opaque("a", 0)), "a/f/b", impl.ErrNone},
		{layer(dir("a", 0), white("a/b")), "a/b/f/x", impl.ErrNone},
		{layer(dir("a", 0), white("a/f")), "a/f/b", impl.ErrNone},
		{layer(dir("a", 0), link("a/b", "f")), "a/b/f/x", impl.ErrNotDir},
		{layer(dir("a", 0), opaque("a/b", 0)), "a/b/f/x", impl.ErrNone},
		{layer(dir("a", 0), dir("a/f", 0)), "a/f/b", impl.ErrNone},
		{layer(dir("a", 0), dir("a/b", 0), white("a/b/f")), "a/b/f/x", impl.ErrNone},
		{layer(dir("a", 0), dir("a/b", 0), dir("a/b/f", 0)), "a/b/f/x", impl.ErrNone},
	} {
		checkUnresolved(t, stack(lower, v.upper), v.path, v.code)
		checkUnresolved(t, stack(v.upper, lower, nil, v.upper, v.upper), v.path, v.code)
	}
}

// What a higher layer has replaced does not come back with a directory above it.
func TestPathsBelowDirectoriesThatAreReplacedOrOpaque(t *testing.T) {
	lower := layer(dir("a", 1), dir("a/b", 1), file("a/b/c", "low", 1), link("a/d", "low"))
	for _, r := range stoppers("a") {
		for n := 1; n <= 4; n++ {
			list := append(slices.Repeat(stack(lower), n), layer(r))
			code := impl.ErrNone
			if r.Kind == impl.KindFile || r.Kind == impl.KindLink {
				code = impl.ErrNotDir
			}
			for _, path := range []string{"a/b", "a/b/c", "a/d", "a/x/y/z"} {
				checkUnresolved(t, list, path, code)
			}
			if n == 4 {
				continue
			}
			list = append(list, layer(dir("a", 9), file("a/d", "high", 9)))
			checkLookUp(t, list, "a", nodeOf(dir("a", 9)), 0)
			checkLayerNumber(t, list, "a", n+2, 0)
			checkReadDir(t, list, "a", []string{"d"}, 0)
			checkWalk(t, list, "a", []string{"a/d"}, 0)
			checkReadFile(t, list, "a/d", 1, 2, "ig", 0)
			checkReadLink(t, list, "a/d", "", impl.ErrKind)
			checkLayerNumber(t, list, "a/d", n+2, 0)
			checkUnresolved(t, list, "a/b", impl.ErrNone)
			checkUnresolved(t, list, "a/b/c", impl.ErrNone)
			checkUnresolved(t, list, "a/d/x", impl.ErrNotDir)
		}
	}
}

// An opaque directory shows what its own layer has in it.
func TestOpaqueDirectoriesWithPathsOfTheirOwn(t *testing.T) {
	lower := layer(dir("a", 1), dir("a/b", 1), file("a/b/c", "low", 1), file("a/b/e", "low", 1), link("a/d", "low"))
	upper := layer(opaque("a", 2), dir("a/b", 2), link("a/b/c", "up"), white("a/d"), file("a/e", "", 2))
	list := stack(lower, lower, upper, layer(dir("a", 4)))
	checkReadDir(t, list, "a", []string{"b", "e"}, 0)
	checkWalk(t, list, "a", []string{"a/b", "a/b/c", "a/e"}, 0)
	checkReadDir(t, list, "a/b", []string{"c"}, 0)
	checkLookUp(t, list, "a", nodeOf(dir("a", 4)), 0)
	checkLookUp(t, list, "a/b", nodeOf(dir("a/b", 2)), 0)
	checkReadLink(t, list, "a/b/c", "up", 0)
	checkReadFile(t, list, "a/b/c", 0, 1, "", impl.ErrKind)
	checkUnresolved(t, list, "a/b/e", impl.ErrNone)
	checkUnresolved(t, list, "a/d", impl.ErrNone)
	for path, number := range map[string]int{"": 0, "a": 4, "a/b": 3, "a/b/c": 3, "a/e": 3} {
		checkLayerNumber(t, list, path, number, 0)
	}
	// The directory alone is no record of what is below it.
	checkLayerNumber(t, stack(lower, layer(dir("a", 2), dir("a/b", 2))), "a/b/c", 1, 0)
	checkLayerNumber(t, stack(lower, layer(dir("a", 2)), lower, nil), "a/d", 3, 0)
}

// A path that is removed and placed again is that of the layer that places it.
func TestPathsThatArePlacedAgain(t *testing.T) {
	for _, r := range layer(file("a", "x", 1), link("a", "y"), dir("a", 2), opaque("a", 3)) {
		for _, s := range layer(file("a", "new", 4), link("a", "new"), dir("a", 5), opaque("a", 6)) {
			list := stack(layer(r), layer(white("a")), layer(s), layer(white("b")), nil)
			checkUnresolved(t, list[:2], "a", impl.ErrNone)
			checkLayerNumber(t, list[:1], "a", 1, 0)
			for n := 3; n <= 5; n++ {
				checkLookUp(t, list[:n], "a", nodeOf(s), 0)
				checkLayerNumber(t, list[:n], "a", 3, 0)
			}
			checkLookUp(t, stack(layer(s), nil, layer(s), layer(r)), "a", nodeOf(r), 0)
			checkLayerNumber(t, stack(layer(s), nil, layer(s), layer(r)), "a", 4, 0)
		}
	}
}

func TestPartsOfFiles(t *testing.T) {
	bodies := append(edgeBodies()[:7:7], strings.Repeat("é", 10), "0123456789", "a\xff\x80b")
	for _, body := range bodies {
		for _, path := range []string{"f", "p/q/r/f"} {
			l := append(dirsTo(parentByRule(path), 1), file(path, body, 2))
			for _, list := range [][][]impl.Record{stack(l), stack(append(dirsTo(parentByRule(path), 1), file(path, "another body", 1)), l, nil)} {
				for _, off := range append(edgeNumbers(), len(body)-1, len(body), len(body)+1, 3, 7) {
					for _, n := range append(edgeNumbers(), len(body)-1, len(body), len(body)+1, 3, 7) {
						if off < 0 || n < 0 {
							checkReadFile(t, list, path, off, n, "", impl.ErrRange)
						} else {
							checkReadFile(t, list, path, off, n, bytesByRule(body, off, n), 0)
						}
					}
				}
			}
		}
	}
	list := stack(layer(file("f", body20, 0)))
	for _, v := range []struct {
		off, n int
		want   string
	}{{0, 20, body20}, {0, 21, body20}, {0, 19, body20[:19]}, {19, 1, "."}, {19, 2, "."}, {20, 0, ""}, {20, 1, ""}, {21, 1, ""}, {2, 4, "body"}, {5, 0, ""}, {7, math.MaxInt, "of 20 bytes.."},
		{math.MaxInt, math.MaxInt, ""}, {math.MaxInt, 0, ""}, {0, 0, ""}, {0, math.MaxInt, body20}} {
		checkReadFile(t, list, "f", v.off, v.n, v.want, 0)
	}
}

// ErrIsDir, ErrKind and ErrRange come in this order, behind the codes of resolving.
func TestCodesOfReading(t *testing.T) {
	list := stack(layer(dir("d", 1), file("d/f", "x", 0), link("d/l", "f"), dir("e", 0)), layer(dir("d", 2), white("d/w")), layer(opaque("o", 1)))
	for _, off := range edgeNumbers() {
		for _, n := range edgeNumbers() {
			for path, code := range map[string]int{"": impl.ErrIsDir, "d": impl.ErrIsDir, "e": impl.ErrIsDir, "o": impl.ErrIsDir, "d/l": impl.ErrKind, "d/w": impl.ErrNone, "d/x": impl.ErrNone, "x": impl.ErrNone,
				"d/w/x": impl.ErrNone, "d/f/x": impl.ErrNotDir, "d/l/f": impl.ErrNotDir, "d/": impl.ErrName, "d/f/": impl.ErrName, "/d/l": impl.ErrName} {
				checkReadFile(t, list, path, off, n, "", code)
			}
		}
	}
	for path, code := range map[string]int{"": impl.ErrKind, "d": impl.ErrKind, "o": impl.ErrKind, "d/f": impl.ErrKind, "d/w": impl.ErrNone, "x": impl.ErrNone, "d/f/x": impl.ErrNotDir, "d/l/f": impl.ErrNotDir, "d/l/": impl.ErrName} {
		checkReadLink(t, list, path, "", code)
	}
	for path, code := range map[string]int{"d/f": impl.ErrNotDir, "d/l": impl.ErrNotDir, "d/w": impl.ErrNone, "x": impl.ErrNone, "d/f/x": impl.ErrNotDir, "d/w/x": impl.ErrNone, "/": impl.ErrName, "d/": impl.ErrName} {
		checkReadDir(t, list, path, nil, code)
		checkWalk(t, list, path, nil, code)
	}
}

// A link is not followed, whatever its body says, and read as it is.
func TestBodiesOfLinks(t *testing.T) {
	for _, body := range []string{"x", "f", "d", "l", "/", "..", " ", "\x00", "\xff", body20, strings.Repeat("é", 10)} {
		list := stack(layer(dir("d", 1), link("d/l", body), file("f", "x", 1), link("l", body)), nil)
		for _, path := range []string{"l", "d/l"} {
			checkReadLink(t, list, path, body, 0)
			checkLookUp(t, list, path, nodeOf(link(path, body)), 0)
			checkReadFile(t, list, path, 0, 20, "", impl.ErrKind)
			checkReadDir(t, list, path, nil, impl.ErrNotDir)
			checkWalk(t, list, path, nil, impl.ErrNotDir)
			checkUnresolved(t, list, path+"/l", impl.ErrNotDir)
		}
	}
}

func TestEmptyFilesAndDirectories(t *testing.T) {
	list := stack(layer(dir("a", 0), dir("a/e", 0), file("a/f", "", 0), file("f", "full", 1), dir("g", 1), file("g/x", "", 1), file("g/y", "", 1)), layer(file("f", "", 511), dir("g", 2), white("g/x"), white("g/y")), layer(opaque("o", 511)))
	for _, path := range []string{"f", "a/f"} {
		checkReadFile(t, list, path, 0, 0, "", 0)
		checkReadFile(t, list, path, 0, 20, "", 0)
		checkReadFile(t, list, path, math.MaxInt, math.MaxInt, "", 0)
		checkReadFile(t, list, path, 0, -1, "", impl.ErrRange)
		checkReadFile(t, list, path, -1, 0, "", impl.ErrRange)
	}
	checkLookUp(t, list, "f", nodeOf(file("f", "", 511)), 0)
	checkLookUp(t, list, "a/f", nodeOf(file("a/f", "", 0)), 0)
	for path, mode := range map[string]int{"a/e": 0, "g": 2, "o": 511} {
		checkReadDir(t, list, path, nil, 0)
		checkWalk(t, list, path, nil, 0)
		checkLookUp(t, list, path, nodeOf(dir(path, mode)), 0)
	}
	checkWalk(t, list, "", []string{"a", "a/e", "a/f", "f", "g", "o"}, 0)
}

// Names are those of parts and not of what begins like the path, and paths are in the order of PathLess: '!' and '.' are less than '/'.
func TestNamesAreInOrder(t *testing.T) {
	lower := layer(file("Z", "", 0), dir("a", 1), file("a/b", "", 0), dir("a/c", 1), file("a/c/~", "", 0), dir("a!", 1), file("a!/b", "", 0), file("ab", "", 0), file("b", "", 0))
	upper := layer(file("!", "", 0), dir("a", 1), file("a/!", "", 0), dir("a/b!", 1), file("a/b!/x", "", 0), file("a/bb", "", 0), dir("a/c", 1), file("a/c/!", "", 0), file("a.", "", 0), file("~", "", 0))
	for _, list := range [][][]impl.Record{stack(lower, upper), stack(upper, lower), stack(nil, upper, nil, lower, upper)} {
		checkReadDir(t, list, "", []string{"!", "Z", "a", "a!", "a.", "ab", "b", "~"}, 0)
		checkReadDir(t, list, "a", []string{"!", "b", "b!", "bb", "c"}, 0)
		checkReadDir(t, list, "a/c", []string{"!", "~"}, 0)
		checkReadDir(t, list, "a!", []string{"b"}, 0)
		checkReadDir(t, list, "a/b!", []string{"x"}, 0)
		checkWalk(t, list, "", []string{"!", "Z", "a", "a/!", "a/b", "a/b!", "a/b!/x", "a/bb", "a/c", "a/c/!", "a/c/~", "a!", "a!/b", "a.", "ab", "b", "~"}, 0)
		checkWalk(t, list, "a", []string{"a/!", "a/b", "a/b!", "a/b!/x", "a/bb", "a/c", "a/c/!", "a/c/~"}, 0)
		checkWalk(t, list, "a/c", []string{"a/c/!", "a/c/~"}, 0)
	}
	// A directory of each depth, and a name that is in all of them.
	list := stack(layer(dir("a", 1), dir("a/a", 2), dir("a/a/a", 3), dir("a/a/a/a", 4)), layer(dir("a", 1), file("a/b", "", 0)))
	for n, path := range []string{"", "a", "a/a", "a/a/a", "a/a/a/a"} {
		names := []string{"a"}[:min(1, 4-n)]
		if n == 1 {
			names = []string{"a", "b"}
		}
		checkReadDir(t, list, path, names, 0)
	}
	checkWalk(t, list, "", []string{"a", "a/a", "a/a/a", "a/a/a/a", "a/b"}, 0)
	checkWalk(t, list, "a/a", []string{"a/a/a", "a/a/a/a"}, 0)
}

// The view of a stack has no limit, and neither have the queries.
func TestQueriesOfEightyFiles(t *testing.T) {
	list := stack(inDir("d", "P", 15), inDir("d", "Q", 15), inDir("d", "R", 15), inDir("d", "S", 15), filesAt("T", 16))
	view := afterAllByRule(list, nil)
	if len(view) != 77 {
		t.Fatalf("the view of this test has %d nodes", len(view))
	}
	for _, path := range asked(list) {
		checkAsked(t, list, view, path)
	}
	names, code := impl.ReadDir(list, "d")
	if len(names) != 60 || names[59] != "So" || code != 0 {
		t.Errorf("ReadDir of 60 files = %q, %d", names, code)
	}
}

func TestQueriesAtUnlikelyPaths(t *testing.T) {
	list := stack(layer(dir("~", 1), opaque("~/!", 1), white("~/...")), layer(dir("...", 1)), layer(dir("~", 2), dir("~/...", 3), link("~/.../~", "~"), white("~~")), layer(dir("longname", 0), dir("longname/longname", 0)))
	view := afterAllByRule(list, nil)
	for _, path := range append(paths(), asked(list)...) {
		checkAsked(t, list, view, path)
	}
	checkReadDir(t, list, "", []string{"...", "longname", "~"}, 0)
}

// neither returns strings that are neither paths nor the root, none of which is too long.
func neither() []string {
	return append(notPaths()[1:], strings.Repeat("a", impl.MaxText), strings.Repeat("a/", impl.MaxText/2), strings.Repeat("/", impl.MaxText))
}

func TestTextsThatAreNeitherPathsNorTheRoot(t *testing.T) {
	if notPaths()[0] != "" {
		t.Fatal("the root is not the first string that is no path")
	}
	for _, list := range append(someStacks(6), nil, stack(nil), stack(layer(white("a"))), stack(layer(file("a", "x", 1))), stack(layer(dir("a", 1), dir("a/b", 1), dir("a/b/c", 1), dir("a/b/c/d", 1))), slices.Repeat(stack(filesAt("Z", 16)), 5)) {
		for _, text := range neither() {
			checkUnresolved(t, list, text, impl.ErrName)
		}
	}
}

// ErrBad precedes ErrName and all codes behind it, for the root as for a path, whichever layer is invalid and whatever the other ones have.
func TestListsThatAreNotStacksAreNotAsked(t *testing.T) {
	for _, bad := range append(notLayers(), make([]impl.Record, impl.MaxList+1), append(whites(16), make([]impl.Record, 2*impl.MaxList)...)) {
		for n := range 5 {
			list := stack(layer(dir("a", 1), file("a/b", "x", 1)), filesAt("U", 16), nil, layer(white("a"), white("b")))[:n]
			list = slices.Insert(list, n/2, bad)
			for _, path := range []string{"", "a", "a/b", "a/b/c", "Ua", "b", "x/y", "/", "a//b"} {
				checkUnresolved(t, list, path, impl.ErrBad)
			}
		}
	}
	for n, code := range map[int]int{6: impl.ErrBad, 7: impl.ErrBad, impl.MaxList: impl.ErrBad, impl.MaxList + 1: impl.ErrLong, impl.MaxList + 100: impl.ErrLong} {
		for _, l := range [][]impl.Record{nil, layer(file("a", "x", 1)), filesAt("Z", 16), whites(17)} {
			for _, path := range append([]string{"", "a", "a/b", "Za"}, neither()...) {
				checkUnresolved(t, slices.Repeat(stack(l), n), path, code)
			}
		}
	}
}

// ErrLong for the path precedes ErrBad for the stack, and that for the stack precedes ErrName for the path.
func TestPathsThatAreTooLongAreNotAsked(t *testing.T) {
	for _, path := range tooLong() {
		for _, list := range append(someStacks(6), nil, stack(nil), slices.Repeat(stack(filesAt("Z", 16)), 5), make([][]impl.Record, 6), make([][]impl.Record, impl.MaxList), make([][]impl.Record, impl.MaxList+1)) {
			checkUnresolved(t, list, path, impl.ErrLong)
		}
		for _, bad := range notLayers() {
			checkUnresolved(t, stack(bad), path, impl.ErrLong)
		}
	}
}

// Layers at any place of a stack are replaced, and neither the view nor the effect on a tree changes.
func TestTheViewOfAReplacedStack(t *testing.T) {
	trees := append(append(someNodeLists(30), fullTrees()...), chainTrees()...)
	lengths := map[int]int{}
	for i, list := range append(someStacks(240), wideStacks(240)...) {
		view, _ := impl.ViewOf(list)
		start := trees[i%len(trees)]
		want, wantCode := impl.ApplyAll(list, start)
		for from := range len(list) + 1 {
			for to := from; to <= len(list); to++ {
				replaced, code := impl.Replaced(list, from, to)
				if code != 0 {
					continue
				}
				lengths[to-from]++
				checkView(t, replaced, view, 0)
				checkApplyAll(t, replaced, start, want, wantCode)
			}
		}
	}
	for n := range 6 {
		if lengths[n] < 20 {
			t.Errorf("the numbers of replaced layers in this test are %v", lengths)
		}
	}
}

// Layers are replaced again and again until one is left, also with empty layers in between.
func TestTheViewOfAStackReplacedAgainAndAgain(t *testing.T) {
	left := 0
	for _, list := range append(someStacks(120), wideStacks(120)...) {
		view, _ := impl.ViewOf(list)
		for step := 0; len(list) > 1; step++ {
			from := step % (len(list) - 1)
			next, code := impl.Replaced(list, from, from+2)
			if code != 0 {
				break
			}
			if step == 0 && len(next) < 5 {
				next, _ = impl.Replaced(next, from, from)
			}
			checkView(t, next, view, 0)
			list = next
		}
		if len(list) == 1 {
			left++
		}
	}
	if left < 50 {
		t.Errorf("only %d stacks of this test are replaced by one layer", left)
	}
}
