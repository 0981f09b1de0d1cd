package tests

import (
	"fmt"
	"math"
	"math/rand"
	"slices"
	"strings"
	"testing"

	"loop.example/g00798/impl"
)

func nodeOf(r impl.Record) impl.Node {
	return impl.Node{Kind: r.Kind, Path: r.Path, Body: r.Body, Mode: r.Mode}
}

func tree(records ...impl.Record) []impl.Node {
	var t []impl.Node
	for _, r := range records {
		t = append(t, nodeOf(r))
	}
	return t
}

// plainFiles returns n files in order, a tree if n is at most MaxNodes.
func plainFiles(n int) []impl.Node {
	var t []impl.Node
	for i := range n {
		t = append(t, nodeOf(file(string([]byte{byte('A' + i/26), byte('a' + i%26)}), "x", i)))
	}
	return t
}

// fullTrees returns trees of MaxNodes nodes: one of files, and one with a directory, a file and a link at the beginning.
func fullTrees() [][]impl.Node {
	return [][]impl.Node{plainFiles(24), append(tree(dir("0", 7), file("0/f", "x", 1), link("0/l", "y")), plainFiles(21)...)}
}

func showTree(t []impl.Node) string {
	return fmt.Sprintf("%.600s", fmt.Sprintf("%q", []any{t}))
}

// cannotBeInATree follows the wording of chapter 5 for one node alone.
func cannotBeInATree(n impl.Node) bool {
	r := impl.Record{Kind: n.Kind, Path: n.Path, Body: n.Body, Mode: n.Mode}
	return n.Kind == 4 || faultByRule(r) != 0
}

// treeByRule follows the wording of chapter 5, in another way than the program does.
func treeByRule(t []impl.Node) bool {
	kinds := map[string]int{"": 3}
	for i, n := range t {
		inOrder := i == 0 || orderKey(t[i-1].Path) < orderKey(n.Path)
		if i == 24 || cannotBeInATree(n) || !inOrder || kinds[parentByRule(n.Path)] != 3 {
			return false
		}
		kinds[n.Path] = n.Kind
	}
	return true
}

// resolveByRule returns the node of a path, or the code of resolving it.
func resolveByRule(t []impl.Node, path string) (impl.Node, int) {
	if !pathByRule(path) {
		return impl.Node{}, impl.ErrName
	}
	byPath := map[string]impl.Node{}
	for _, n := range t {
		byPath[n.Path] = n
	}
	parts := strings.Split(path, "/")
	for i := range parts {
		n, found := byPath[strings.Join(parts[:i+1], "/")]
		switch {
		case !found:
			return impl.Node{}, impl.ErrNone
		case i == len(parts)-1:
			return n, 0
		case n.Kind != 3:
			return impl.Node{}, impl.ErrNotDir
		}
	}
	panic("a path without parts")
}

func listByRule(t []impl.Node, path string) ([]string, int) {
	if path != "" {
		n, code := resolveByRule(t, path)
		if code == 0 && n.Kind != 3 {
			code = impl.ErrNotDir
		}
		if code != 0 {
			return nil, code
		}
	}
	var parts []string
	for _, n := range t {
		if parentByRule(n.Path) == path {
			parts = append(parts, n.Path[strings.LastIndex(n.Path, "/")+1:])
		}
	}
	return parts, 0
}

func addByRule(t []impl.Node, n impl.Node) ([]impl.Node, int) {
	if cannotBeInATree(n) {
		return nil, impl.ErrBad
	}
	kinds := map[string]int{"": 3}
	for _, m := range t {
		kinds[m.Path] = m.Kind
	}
	blocked := false
	for up := parentByRule(n.Path); up != ""; up = parentByRule(up) {
		blocked = blocked || kinds[up] != 0 && kinds[up] != 3
	}
	switch {
	case kinds[n.Path] != 0:
		return t, impl.ErrSame
	case blocked:
		return t, impl.ErrNotDir
	case kinds[parentByRule(n.Path)] == 0:
		return t, impl.ErrOrphan
	case len(t) == 24:
		return t, impl.ErrFull
	}
	out := append(slices.Clone(t), n)
	slices.SortFunc(out, func(a, b impl.Node) int { return strings.Compare(orderKey(a.Path), orderKey(b.Path)) })
	return out, 0
}

func removeByRule(t []impl.Node, path string) ([]impl.Node, int) {
	if _, code := resolveByRule(t, path); code != 0 {
		return t, code
	}
	return slices.DeleteFunc(slices.Clone(t), func(n impl.Node) bool { return strings.HasPrefix(n.Path+"/", path+"/") }), 0
}

func checkFound(t *testing.T, list []impl.Node, path string, want impl.Node, wantCode int) {
	t.Helper()
	if n, code := impl.FindNode(list, path); n != want || code != wantCode {
		t.Errorf("FindNode(%s, %.40q) = %.200q, %d, want %.200q, %d", showTree(list), path, []any{n}, code, []any{want}, wantCode)
	}
}

func checkListed(t *testing.T, list []impl.Node, path string, want []string, wantCode int) {
	t.Helper()
	if parts, code := impl.ListDir(list, path); !slices.Equal(parts, want) || code != wantCode {
		t.Errorf("ListDir(%s, %.40q) = %q, %d, want %q, %d", showTree(list), path, parts, code, want, wantCode)
	}
}

func checkAdded(t *testing.T, list []impl.Node, n impl.Node, want []impl.Node, wantCode int) {
	t.Helper()
	if got, code := impl.AddNode(list, n); !slices.Equal(got, want) || code != wantCode {
		t.Errorf("AddNode(%s, %.200q) = %s, %d, want %s, %d", showTree(list), []any{n}, showTree(got), code, showTree(want), wantCode)
	}
}

func checkRemoved(t *testing.T, list []impl.Node, path string, want []impl.Node, wantCode int) {
	t.Helper()
	if got, code := impl.RemoveNode(list, path); !slices.Equal(got, want) || code != wantCode {
		t.Errorf("RemoveNode(%s, %.40q) = %s, %d, want %s, %d", showTree(list), path, showTree(got), code, showTree(want), wantCode)
	}
}

func checkLayerOf(t *testing.T, list []impl.Node, want []impl.Record, wantCode int) {
	t.Helper()
	if l, code := impl.LayerOfTree(list); !slices.Equal(l, want) || code != wantCode {
		t.Errorf("LayerOfTree(%s) = %s, %d, want %s, %d", showTree(list), show(l), code, show(want), wantCode)
	}
}

// checkAt compares every function that takes a path, and AddNode of each kind of node at that path, with the rules.
func checkAt(t *testing.T, list []impl.Node, path string) {
	t.Helper()
	n, code := resolveByRule(list, path)
	checkFound(t, list, path, n, code)
	parts, code := listByRule(list, path)
	checkListed(t, list, path, parts, code)
	rest, code := removeByRule(list, path)
	checkRemoved(t, list, path, rest, code)
	for _, n := range tree(file(path, "n", 9), link(path, "n"), dir(path, 9), white(path)) {
		more, code := addByRule(list, n)
		checkAdded(t, list, n, more, code)
	}
}

// checkNotATree checks that every function refuses a list that is not a tree, with zero values.
func checkNotATree(t *testing.T, list []impl.Node, path string, want int) {
	t.Helper()
	checkFound(t, list, path, impl.Node{}, want)
	checkListed(t, list, path, nil, want)
	checkRemoved(t, list, path, nil, want)
	checkLayerOf(t, list, nil, want)
	for _, n := range append(tree(file(path, "", 0), dir("new", 1)), impl.Node{}) {
		checkAdded(t, list, n, nil, want)
	}
	if impl.TreeOK(list) || impl.SameTree(list, list) || impl.SameTree(list, nil) || impl.SameTree(nil, list) {
		t.Errorf("a function accepts %s, which is not a tree", showTree(list))
	}
}

// someNodeLists returns random trees of poolPaths as lists, the same ones in each run: mostly directories, so that deep paths occur.
func someNodeLists(n int) [][]impl.Node {
	random := rand.New(rand.NewSource(4))
	var all [][]impl.Node
	for len(all) < n {
		var list []impl.Node
		for _, path := range append(poolPaths(), "d", "d/e", "d/e/f", "d/e/f/g") {
			choices := tree(file(path, "x", 1), link(path, "y"), dir(path, 2), dir(path, 3), dir(path, 4))
			more := append(slices.Clone(list), choices[random.Intn(len(choices))])
			if treeByRule(more) && random.Intn(6) > 0 {
				list = more
			}
		}
		all = append(all, list)
	}
	return all
}

// askedPaths are poolPaths, paths that are below no node of them, paths that begin with the same letters as one of them, and what is no path.
func askedPaths() []string {
	more := []string{"a/b/c/new", "a/b/c/d/new", "a/new", "a/!/x/y", "a/!/x/y/z", "ab", "a/bc", "a/b/c.", "a/b/c0", "a/b./c/dd", "bb", "b/cc", "b/c.", "c/new", "c/new/a", "new", "new/new",
		"A", "!", "~", "a/~", "a/b/~", "b/~/~", "c/~/~/~"}
	return append(append(poolPaths(), more...), notPaths()...)
}

func TestConstantsOfTrees(t *testing.T) {
	if impl.MaxNodes != 24 {
		t.Error("a constant differs from the document")
	}
}

func TestTrees(t *testing.T) {
	for _, list := range append(fullTrees(),
		nil,
		[]impl.Node{},
		tree(file("a", "", 0)),
		tree(file("a", body20, 511)),
		tree(link("a", body20)),
		tree(dir("a", 511)),
		tree(dir("a", 0), dir("a/b", 0), dir("a/b/c", 0), dir("a/b/c/d", 0)),
		tree(dir("a", 0), dir("a/b", 0), dir("a/b/c", 0), link("a/b/c/d", "x"), file("a/b/c/e", "", 0), file("a/b/d", "", 0), link("a/c", "a"), file("b", "", 0)),
		tree(dir("a", 0), file("a/b", "", 0), file("a!", "", 0), dir("a.b", 0), file("a.b/c", "", 0), file("ab", "", 0)),
		tree(dir("a", 0), dir("a/b", 0), dir("b", 0), file("b/b", "", 0)),
		plainFiles(23),
	) {
		if !treeByRule(list) {
			t.Fatalf("the rule of this test refuses %s", showTree(list))
		}
		if !impl.TreeOK(list) || !impl.SameTree(list, slices.Clone(list)) {
			t.Errorf("%s is refused", showTree(list))
		}
	}
}

func TestSameTree(t *testing.T) {
	all := [][]impl.Node{nil, tree(file("a", "", 0)), tree(file("b", "", 0)), tree(file("a", "x", 0)), tree(file("a", "", 1)), tree(link("a", "x")), tree(dir("a", 0)), tree(dir("a", 1)),
		tree(file("a", "", 0), file("b", "", 0)), tree(dir("a", 0), file("a/b", "", 0)), tree(dir("a", 0), dir("a/b", 0)), plainFiles(23), fullTrees()[0], fullTrees()[1]}
	for i, a := range all {
		for k, b := range all {
			if got := impl.SameTree(a, slices.Clone(b)); got != (i == k) {
				t.Errorf("SameTree(%s, %s) = %v", showTree(a), showTree(b), got)
			}
		}
	}
	if !impl.SameTree(nil, []impl.Node{}) || !impl.SameTree([]impl.Node{}, nil) {
		t.Error("an empty slice and nil are not the same tree")
	}
}

// badNodes returns nodes that cannot be in any tree, with every fault of chapter 3 that a node can have.
func badNodes() []impl.Node {
	bad := []impl.Node{{}, {Kind: 4, Path: "m"}, {Kind: 0, Path: "m"}, {Kind: 5, Path: "m"}, {Kind: -1, Path: "m"}, {Kind: math.MinInt, Path: "m"}, {Kind: math.MaxInt, Path: "m"},
		{Kind: 1, Path: "m", Body: body21}, {Kind: 2, Path: "m", Body: body21}, {Kind: 2, Path: "m"}, {Kind: 3, Path: "m", Body: "x"}, {Kind: 3, Path: "m", Body: body21},
		{Kind: 1, Path: "m", Mode: -1}, {Kind: 1, Path: "m", Mode: 512}, {Kind: 3, Path: "m", Mode: -1}, {Kind: 3, Path: "m", Mode: 512},
		{Kind: 2, Path: "m", Body: "x", Mode: 1}, {Kind: 2, Path: "m", Body: "x", Mode: -1}, {Kind: 4, Path: "m", Body: "x", Mode: 1}, {Kind: 1, Path: "m", Mode: math.MaxInt}}
	for _, path := range append(notPaths(), tooLong()...) {
		bad = append(bad, nodeOf(file(path, "", 0)), nodeOf(link(path, "x")), nodeOf(dir(path, 0)))
	}
	for _, long := range tooLong() {
		bad = append(bad, nodeOf(file("m", long, 0)), nodeOf(link("m", long)))
	}
	return bad
}

// A node of each fault alone, before, behind and between nodes that are valid.
func TestListsWithANodeThatCannotBeInATree(t *testing.T) {
	for _, n := range badNodes() {
		for _, list := range [][]impl.Node{{n}, append(tree(dir("a", 0)), n), append([]impl.Node{n}, tree(dir("z", 0))...), append(append(tree(dir("a", 0)), n), tree(dir("z", 0))...)} {
			checkNotATree(t, list, "a", impl.ErrBad)
		}
	}
}

// ErrBad precedes ErrName and the codes of resolving, also for nodes that cannot be added.
func TestListsThatAreNotTrees(t *testing.T) {
	for _, list := range [][]impl.Node{
		tree(white("a")),
		tree(dir("a", 0), white("a/b")),
		tree(file("a", "", 0), file("a", "", 0)),
		tree(dir("a", 0), dir("a", 1)),
		tree(dir("a", 0), file("a/b", "", 0), file("a/b", "", 0)),
		tree(dir("a", 0), file("a/b", "", 0), dir("a", 0)),
		tree(file("b", "", 0), file("a", "", 0)),
		tree(file("a", "", 0), file("c", "", 0), file("b", "", 0)),
		tree(dir("a", 0), file("a.b", "", 0), file("a/b", "", 0)),
		tree(dir("a", 0), dir("a/b", 0), file("a/c", "", 0), file("a/b/c", "", 0)),
		tree(file("a/b", "", 0), dir("a", 0)),
		tree(file("a/b", "", 0)),
		tree(dir("a", 0), file("a/b/c", "", 0)),
		tree(dir("a", 0), dir("a/b", 0), file("a/b/c/d", "", 0)),
		tree(dir("a", 0), dir("a/b", 0), dir("b", 0), file("b/b/c", "", 0)),
		tree(dir("a", 0), file("ab/c", "", 0)),
		tree(file("a", "", 0), file("a/b", "", 0)),
		tree(link("a", "b"), file("a/b", "", 0)),
		tree(link("a", "b"), dir("b", 0), file("b/c", "", 0), file("b/c/d", "", 0)),
		tree(dir("a", 0), dir("a/b", 0), link("a/b/c", "x"), file("a/b/c/d", "", 0)),
		plainFiles(25),
		append(fullTrees()[1], nodeOf(file("zz", "", 0))),
		plainFiles(100),
		append(plainFiles(24), impl.Node{}),
	} {
		if treeByRule(list) {
			t.Fatalf("the rule of this test accepts %s", showTree(list))
		}
		for _, path := range append(notPaths(), "a", "a/b", "b", "a/b/c", "Aa", "Aa/b", "z", "z/y", strings.Repeat("a", impl.MaxText)) {
			checkNotATree(t, list, path, impl.ErrBad)
		}
	}
}

func TestAllChoicesOfNodes(t *testing.T) {
	trees, others := 0, 0
	asked := []string{"a", "a/b", "a/b/c", "a/b/c/d", "a/c", "a.b", "a.b/c", "a/c/d", "a/c/d/e", "", "ab", "z/y"}
	everyLayer([]string{"a", "a/b", "a/b/c", "a/b/c/d", "a/c", "a.b"}, nil, func(l []impl.Record) {
		if slices.ContainsFunc(l, func(r impl.Record) bool { return r.Opaque }) {
			return
		}
		list := tree(l...)
		if !treeByRule(list) {
			others++
			checkNotATree(t, list, "a", impl.ErrBad)
			return
		}
		trees++
		checkLayerOf(t, list, l, 0)
		for _, path := range asked {
			checkAt(t, list, path)
		}
	})
	if trees < 100 || others < 100 {
		t.Errorf("this test has %d trees and %d others", trees, others)
	}
}

func TestAllShortListsOfNodes(t *testing.T) {
	pool := append(tree(dir("a", 0), dir("a", 1), file("a", "", 0), link("a/b", "x"), dir("a/b", 0), link("a/b/c", "x"), white("a.b"), file("a.b", "", 0), dir("b", 512), file("b", "", 0)),
		impl.Node{}, nodeOf(file("a/", "", 0)), nodeOf(link("b", "")), nodeOf(file("b", body21, 0)), impl.Node{Kind: 3, Path: "b", Body: "x"})
	for _, n := range pool {
		for _, m := range pool {
			for _, k := range pool {
				for _, list := range [][]impl.Node{{n, m, k}, {n, m}, {n}} {
					if got := impl.TreeOK(list); got != treeByRule(list) {
						t.Errorf("TreeOK(%s) = %v", showTree(list), got)
					}
				}
			}
		}
	}
}

func TestFoundAndListedNodes(t *testing.T) {
	list := tree(dir("a", 1), file("a/b", "x", 2), dir("a/c", 3), dir("a/c/d", 4), link("a/c/d/e", "y"), dir("a/e", 5), file("a.b", "z", 6), dir("ab", 7), file("ab/c", "", 8), link("l", "a"))
	for _, n := range list {
		checkFound(t, list, n.Path, n, 0)
	}
	for _, v := range []struct {
		path       string
		find, list int
		parts      []string
	}{
		{"", impl.ErrName, 0, []string{"a", "a.b", "ab", "l"}},
		{"a", 0, 0, []string{"b", "c", "e"}},
		{"a/c", 0, 0, []string{"d"}},
		{"a/c/d", 0, 0, []string{"e"}},
		{"a/e", 0, 0, nil},
		{"ab", 0, 0, []string{"c"}},
		{"a/b", 0, impl.ErrNotDir, nil},
		{"l", 0, impl.ErrNotDir, nil},
		{"a/c/d/e", 0, impl.ErrNotDir, nil},
		{"a/b/c", impl.ErrNotDir, impl.ErrNotDir, nil},
		{"a/b/c/d", impl.ErrNotDir, impl.ErrNotDir, nil},
		{"l/b", impl.ErrNotDir, impl.ErrNotDir, nil},
		{"l/b/c/d", impl.ErrNotDir, impl.ErrNotDir, nil},
		{"a.b/c", impl.ErrNotDir, impl.ErrNotDir, nil},
		{"z", impl.ErrNone, impl.ErrNone, nil},
		{"z/y/x/w", impl.ErrNone, impl.ErrNone, nil},
		{"a/z", impl.ErrNone, impl.ErrNone, nil},
		{"a/z/y", impl.ErrNone, impl.ErrNone, nil},
		{"a/e/b", impl.ErrNone, impl.ErrNone, nil},
		{"ab/b", impl.ErrNone, impl.ErrNone, nil},
		{"a/ab", impl.ErrNone, impl.ErrNone, nil},
		{"/", impl.ErrName, impl.ErrName, nil},
		{"a/", impl.ErrName, impl.ErrName, nil},
		{"a/b/", impl.ErrName, impl.ErrName, nil},
		{"a//b", impl.ErrName, impl.ErrName, nil},
		{"a/c/d/e/f", impl.ErrName, impl.ErrName, nil},
		{".", impl.ErrName, impl.ErrName, nil},
	} {
		n, code := resolveByRule(list, v.path)
		if code != v.find {
			t.Fatalf("the rule of this test gives the code %d for %q", code, v.path)
		}
		checkFound(t, list, v.path, n, v.find)
		checkListed(t, list, v.path, v.parts, v.list)
	}
}

func TestTheEmptyTree(t *testing.T) {
	for _, empty := range [][]impl.Node{nil, {}} {
		if !impl.TreeOK(empty) {
			t.Error("the empty tree is refused")
		}
		checkListed(t, empty, "", nil, 0)
		checkLayerOf(t, empty, nil, 0)
		for _, path := range askedPaths() {
			checkAt(t, empty, path)
		}
		checkAdded(t, empty, nodeOf(dir("a", 1)), tree(dir("a", 1)), 0)
		checkAdded(t, empty, nodeOf(dir("a/b", 1)), nil, impl.ErrOrphan)
		checkFound(t, empty, "a/b", impl.Node{}, impl.ErrNone)
		checkRemoved(t, empty, "a/b", nil, impl.ErrNone)
		checkRemoved(t, empty, "", nil, impl.ErrName)
	}
}

func TestAllFunctionsOfSomeTrees(t *testing.T) {
	sizes := map[int]int{}
	for _, list := range append(someNodeLists(150), fullTrees()...) {
		sizes[len(list)]++
		if !impl.TreeOK(list) {
			t.Fatalf("TreeOK(%s) is false", showTree(list))
		}
		for _, path := range append(askedPaths(), "0", "0/f", "0/l", "0/f/x", "0/l/x", "0/n", "0/n/x", "Aa", "Aa/b", "zz") {
			checkAt(t, list, path)
		}
	}
	if len(sizes) < 10 || sizes[24] < 2 {
		t.Errorf("the sizes of the trees of this test are %v", sizes)
	}
}

// Nodes are added in a random order; those whose parent is not there yet are refused and tried again.
func TestNodesAddedOneByOne(t *testing.T) {
	random := rand.New(rand.NewSource(14))
	for _, whole := range append(someNodeLists(150), fullTrees()...) {
		var list, added []impl.Node
		waiting := slices.Clone(whole)
		for len(waiting) > 0 {
			i := random.Intn(len(waiting))
			n := waiting[i]
			more, code := impl.AddNode(list, n)
			if _, orphan := resolveByRule(list, parentByRule(n.Path)); strings.Contains(n.Path, "/") && orphan != 0 {
				if code != impl.ErrOrphan || !slices.Equal(more, list) {
					t.Fatalf("AddNode(%s, %q) = %s, %d", showTree(list), []any{n}, showTree(more), code)
				}
				continue
			}
			if code != 0 || len(more) != len(list)+1 || !impl.TreeOK(more) {
				t.Fatalf("AddNode(%s, %q) = %s, %d", showTree(list), []any{n}, showTree(more), code)
			}
			list, added, waiting = more, append(added, n), slices.Delete(waiting, i, i+1)
			for _, m := range added {
				checkFound(t, list, m.Path, m, 0)
				if parts, code := impl.ListDir(list, parentByRule(m.Path)); code != 0 || !slices.Contains(parts, m.Path[strings.LastIndex(m.Path, "/")+1:]) {
					t.Errorf("%q is not listed: %q, %d", m.Path, parts, code)
				}
			}
		}
		if !impl.SameTree(list, whole) {
			t.Errorf("the nodes of %s added one by one are %s", showTree(whole), showTree(list))
		}
	}
}

// A removed node and all below it are not found any more; every other node is found as it was.
func TestNodesRemovedOneByOne(t *testing.T) {
	random := rand.New(rand.NewSource(24))
	removedAt := map[int]int{}
	for _, whole := range append(someNodeLists(200), fullTrees()...) {
		list := whole
		for len(list) > 0 {
			path := list[random.Intn(len(list))].Path
			rest, code := impl.RemoveNode(list, path)
			if code != 0 || !impl.TreeOK(rest) {
				t.Fatalf("RemoveNode(%s, %q) = %s, %d", showTree(list), path, showTree(rest), code)
			}
			removedAt[len(list)-len(rest)]++
			for _, n := range list {
				if n.Path == path || strings.HasPrefix(n.Path, path+"/") {
					checkFound(t, rest, n.Path, impl.Node{}, impl.ErrNone)
				} else {
					checkFound(t, rest, n.Path, n, 0)
				}
			}
			checkRemoved(t, rest, path, rest, impl.ErrNone)
			list = rest
		}
	}
	for _, n := range []int{1, 2, 3, 8} {
		if removedAt[n] == 0 {
			t.Errorf("this test never removes %d nodes at once: %v", n, removedAt)
		}
	}
}

func TestAnAddedLeafIsRemovedAgain(t *testing.T) {
	for _, list := range someNodeLists(100) {
		for _, path := range askedPaths() {
			for _, n := range tree(file(path, "", 511), link(path, body20), dir(path, 0)) {
				more, code := impl.AddNode(list, n)
				if code == 0 {
					checkFound(t, more, path, n, 0)
					checkRemoved(t, more, path, list, 0)
				}
			}
		}
	}
}

// Below a path is what continues it with a '/', not what begins with its letters.
func TestPathsThatBeginWithTheLettersOfAnother(t *testing.T) {
	list := tree(dir("a", 1), dir("a/a", 2), file("a/a/a", "", 3), file("a/a!", "", 4), dir("a/aa", 5), file("a/aa/a", "", 6), file("a!", "", 7), dir("a.", 8), file("a./a", "", 9), file("a0", "", 10), dir("aa", 11), file("aa/a", "", 12))
	if !treeByRule(list) {
		t.Fatal("the list of this test is not a tree")
	}
	checkRemoved(t, list, "a", list[6:], 0)
	checkRemoved(t, list, "a/a", slices.Concat(list[:1], list[3:]), 0)
	checkRemoved(t, list, "a/aa", slices.Concat(list[:4], list[6:]), 0)
	checkRemoved(t, list, "a/a!", slices.Concat(list[:3], list[4:]), 0)
	checkRemoved(t, list, "a.", slices.Concat(list[:7], list[9:]), 0)
	checkRemoved(t, list, "aa", list[:10], 0)
	checkListed(t, list, "", []string{"a", "a!", "a.", "a0", "aa"}, 0)
	checkListed(t, list, "a", []string{"a", "a!", "aa"}, 0)
	checkAdded(t, list, nodeOf(file("a/a0", "", 0)), slices.Insert(slices.Clone(list), 4, nodeOf(file("a/a0", "", 0))), 0)
	checkAdded(t, list, nodeOf(file("a/a/b", "", 0)), slices.Insert(slices.Clone(list), 3, nodeOf(file("a/a/b", "", 0))), 0)
	checkAdded(t, list, nodeOf(file("a/b", "", 0)), slices.Insert(slices.Clone(list), 6, nodeOf(file("a/b", "", 0))), 0)
	checkAdded(t, list, nodeOf(file("A", "", 0)), slices.Insert(slices.Clone(list), 0, nodeOf(file("A", "", 0))), 0)
	checkAdded(t, list, nodeOf(file("b", "", 0)), append(slices.Clone(list), nodeOf(file("b", "", 0))), 0)
	checkFound(t, list, "a!/a", impl.Node{}, impl.ErrNotDir)
	checkFound(t, list, "a0/a", impl.Node{}, impl.ErrNotDir)
	checkFound(t, list, "aaa", impl.Node{}, impl.ErrNone)
}

func TestNodesThatAreInTheWay(t *testing.T) {
	list := tree(dir("d", 0), dir("d/d", 0), file("d/d/f", "x", 1), link("d/d/l", "d"), file("d/f", "x", 1), link("d/l", "d"), file("f", "x", 1), link("l", "d"))
	for path, code := range map[string]int{
		"d": impl.ErrSame, "d/d": impl.ErrSame, "d/d/f": impl.ErrSame, "d/d/l": impl.ErrSame, "d/f": impl.ErrSame, "d/l": impl.ErrSame, "f": impl.ErrSame, "l": impl.ErrSame,
		"f/x": impl.ErrNotDir, "f/x/y": impl.ErrNotDir, "f/x/y/z": impl.ErrNotDir, "l/x": impl.ErrNotDir, "l/d": impl.ErrNotDir, "l/f/x": impl.ErrNotDir, "l/d/l/x": impl.ErrNotDir,
		"d/f/x": impl.ErrNotDir, "d/f/x/y": impl.ErrNotDir, "d/l/x": impl.ErrNotDir, "d/l/f/x": impl.ErrNotDir, "d/d/f/x": impl.ErrNotDir, "d/d/l/x": impl.ErrNotDir,
		"x/y": impl.ErrOrphan, "x/y/z/w": impl.ErrOrphan, "d/x/y": impl.ErrOrphan, "d/x/f/l": impl.ErrOrphan, "d/d/x/y": impl.ErrOrphan, "x/f": impl.ErrOrphan, "fx/y": impl.ErrOrphan,
		"x": 0, "d/x": 0, "d/d/x": 0, "d/d/ff": 0, "fx": 0, "d/fx": 0, "lx": 0,
	} {
		for _, n := range tree(file(path, "n", 2), link(path, "n"), dir(path, 2)) {
			more, rule := addByRule(list, n)
			if rule != code {
				t.Fatalf("the rule of this test gives the code %d for %q", rule, path)
			}
			checkAdded(t, list, n, more, code)
		}
	}
	for _, n := range list {
		checkAdded(t, list, n, list, impl.ErrSame)
	}
}

// ErrSame, ErrNotDir and ErrOrphan precede ErrFull, and ErrBad precedes them all.
func TestCodesOfAddNodeToAFullTree(t *testing.T) {
	full := fullTrees()[1]
	for _, v := range []struct {
		path string
		code int
	}{
		{"0", impl.ErrSame}, {"0/f", impl.ErrSame}, {"0/l", impl.ErrSame}, {"Aa", impl.ErrSame}, {"0/f/x", impl.ErrNotDir}, {"0/l/x/y", impl.ErrNotDir}, {"Aa/x", impl.ErrNotDir},
		{"0/x/y", impl.ErrOrphan}, {"1/x", impl.ErrOrphan}, {"0/x", impl.ErrFull}, {"1", impl.ErrFull}, {"zz", impl.ErrFull}, {"!", impl.ErrFull},
	} {
		for _, n := range tree(file(v.path, "", 0), link(v.path, "x"), dir(v.path, 0)) {
			checkAdded(t, full, n, full, v.code)
		}
		for _, n := range append(tree(white(v.path), file(v.path, body21, 0), link(v.path, ""), dir(v.path, 512)), impl.Node{Path: v.path}, impl.Node{Kind: 5, Path: v.path}) {
			checkAdded(t, full, n, nil, impl.ErrBad)
		}
	}
	almost := full[:23]
	checkAdded(t, almost, nodeOf(file("0/x", "", 0)), slices.Insert(slices.Clone(almost), 3, nodeOf(file("0/x", "", 0))), 0)
	checkAdded(t, almost, full[23], full, 0)
	checkAdded(t, plainFiles(23), nodeOf(dir("zz", 0)), append(plainFiles(23), nodeOf(dir("zz", 0))), 0)
	checkAdded(t, plainFiles(24), nodeOf(dir("zz", 0)), plainFiles(24), impl.ErrFull)
}

func TestNodesThatCannotBeAdded(t *testing.T) {
	for _, list := range append(fullTrees(), nil, tree(dir("a", 0), file("m", "", 0))) {
		for _, n := range badNodes() {
			checkAdded(t, list, n, nil, impl.ErrBad)
		}
	}
}

func TestRemoveNodeOfWhatIsNotThere(t *testing.T) {
	list := tree(dir("a", 1), file("a/b", "x", 2), link("l", "a"))
	for path, code := range map[string]int{"z": impl.ErrNone, "a/z": impl.ErrNone, "z/y": impl.ErrNone, "a/z/y/x": impl.ErrNone, "a/b/c": impl.ErrNotDir, "a/b/c/d": impl.ErrNotDir, "l/b": impl.ErrNotDir, "l/b/c/d": impl.ErrNotDir} {
		checkRemoved(t, list, path, list, code)
	}
	for _, path := range append(notPaths(), strings.Repeat("a/", impl.MaxText/2)) {
		for _, list := range append(fullTrees(), list, nil) {
			checkRemoved(t, list, path, list, impl.ErrName)
			checkFound(t, list, path, impl.Node{}, impl.ErrName)
			if path != "" {
				checkListed(t, list, path, nil, impl.ErrName)
			}
		}
	}
}

func TestLayersOfTrees(t *testing.T) {
	checkLayerOf(t, tree(dir("a", 1), file("a/b", "x", 2), link("a/c", "y"), dir("a/d", 3)), layer(dir("a", 1), file("a/b", "x", 2), link("a/c", "y"), dir("a/d", 3)), 0)
	deep := layer(dir("a", 1), dir("a/b", 2), dir("a/b/c", 3), dir("a/b/c/d", 4), file("a/b/c/e", body20, 511))
	checkLayerOf(t, tree(deep...), deep, 0)
	small, large := 0, 0
	for _, list := range append(someNodeLists(400), fullTrees()...) {
		if len(list) > 16 {
			large++
			checkLayerOf(t, list, nil, impl.ErrMany)
			continue
		}
		small++
		var want []impl.Record
		for _, n := range list {
			want = append(want, impl.Record{Kind: n.Kind, Path: n.Path, Body: n.Body, Mode: n.Mode})
		}
		checkLayerOf(t, list, want, 0)
		if l, _ := impl.LayerOfTree(list); !impl.LayerOK(l) || !impl.IsCanonical(l) {
			t.Errorf("LayerOfTree(%s) is not a canonical layer", showTree(list))
		}
	}
	if small < 20 || large < 20 {
		t.Errorf("this test has %d small trees and %d large ones", small, large)
	}
}

func TestLayersOfTreesOfSixteenAndMoreNodes(t *testing.T) {
	for n := 15; n <= 24; n++ {
		l, code := impl.LayerOfTree(plainFiles(n))
		if n <= 16 && (code != 0 || len(l) != n || !impl.LayerOK(l)) || n > 16 && (code != impl.ErrMany || len(l) != 0) {
			t.Errorf("LayerOfTree of %d nodes is %s, %d", n, show(l), code)
		}
	}
	checkLayerOf(t, plainFiles(25), nil, impl.ErrBad)
}

// ErrLong precedes ErrBad and all other codes, and the tree is not returned beside it.
func TestNodeListsThatAreTooLong(t *testing.T) {
	for _, n := range []int{impl.MaxList + 1, impl.MaxList + 100} {
		for _, first := range append(tree(dir("A", 0), white("A"), file("", "", 0)), impl.Node{}) {
			list := append([]impl.Node{first}, make([]impl.Node, n-1)...)
			copy(list[1:], plainFiles(23))
			for _, path := range append(tooLong(), "A", "Aa", "a", "", "a//b") {
				checkNotATree(t, list, path, impl.ErrLong)
			}
		}
	}
	list := append(plainFiles(24), make([]impl.Node, impl.MaxList-24)...)
	checkNotATree(t, list, "Aa", impl.ErrBad)
	checkNotATree(t, make([]impl.Node, impl.MaxList), "", impl.ErrBad)
}

func TestPathsInTreesThatAreTooLong(t *testing.T) {
	for _, long := range tooLong() {
		for _, list := range append(fullTrees(), nil, tree(dir("a", 0), file("a/b", "", 0)), tree(file("b", "", 0), file("a", "", 0)), plainFiles(25)) {
			checkFound(t, list, long, impl.Node{}, impl.ErrLong)
			checkListed(t, list, long, nil, impl.ErrLong)
			checkRemoved(t, list, long, nil, impl.ErrLong)
		}
	}
}
