package tests

import (
	"math/rand"
	"slices"
	"strings"
	"testing"

	"loop.example/g00798/impl"
)

func nodesByPath(list []impl.Node) map[string]impl.Node {
	byPath := map[string]impl.Node{}
	for _, n := range list {
		byPath[n.Path] = n
	}
	return byPath
}

// pathsOfTrees sorts the paths of both trees, each once, in another way than the program, which passes through both at once.
func pathsOfTrees(a, b []impl.Node) []string {
	var out []string
	for _, n := range slices.Concat(a, b) {
		out = append(out, n.Path)
	}
	slices.SortFunc(out, func(a, b string) int { return strings.Compare(orderKey(a), orderKey(b)) })
	return slices.Compact(out)
}

// betweenByRule says path by path whether chapter 9 names it: for its own node, for a whiteout, or as an ancestor of one of these.
func betweenByRule(a, b []impl.Node) []impl.Record {
	before, after := nodesByPath(a), nodesByPath(b)
	var named []string
	for _, path := range pathsOfTrees(a, b) {
		n, has := after[path]
		m, had := before[path]
		up := parentByRule(path)
		if has && (!had || m != n) || had && !has && (up == "" || after[up].Kind == 3) {
			named = append(named, path)
		}
	}
	var l []impl.Record
	for _, path := range pathsOfTrees(a, b) {
		if !slices.ContainsFunc(named, func(other string) bool { return strings.HasPrefix(other+"/", path+"/") }) {
			continue
		}
		if n, has := after[path]; has {
			l = append(l, impl.Record{Kind: n.Kind, Path: path, Body: n.Body, Mode: n.Mode})
		} else {
			l = append(l, white(path))
		}
	}
	return l
}

// limitedBetween returns what LayerBetween returns for a layer of any size.
func limitedBetween(l []impl.Record) ([]impl.Record, int) {
	if len(l) > 16 {
		return nil, impl.ErrMany
	}
	return l, 0
}

func touchedByRule(a, b []impl.Node) []string {
	before, after := nodesByPath(a), nodesByPath(b)
	return slices.DeleteFunc(pathsOfTrees(a, b), func(path string) bool { return before[path] == after[path] })
}

func checkBetween(t *testing.T, a, b []impl.Node, want []impl.Record, wantCode int) {
	t.Helper()
	if got, code := impl.LayerBetween(a, b); !slices.Equal(got, want) || code != wantCode {
		t.Errorf("LayerBetween(%s, %s) = %s, %d, want %s, %d", showTree(a), showTree(b), show(got), code, show(want), wantCode)
	}
}

// checkTouched checks both orders, which have the same paths.
func checkTouched(t *testing.T, a, b []impl.Node, want []string, wantCode int) {
	t.Helper()
	for _, pair := range [][2][]impl.Node{{a, b}, {b, a}} {
		if got, code := impl.Touched(pair[0], pair[1]); !slices.Equal(got, want) || code != wantCode {
			t.Errorf("Touched(%s, %s) = %q, %d, want %q, %d", showTree(pair[0]), showTree(pair[1]), got, code, want, wantCode)
		}
	}
}

func checkUndo(t *testing.T, l []impl.Record, list []impl.Node, want []impl.Record, wantCode int) {
	t.Helper()
	if got, code := impl.UndoOf(l, list); !slices.Equal(got, want) || code != wantCode {
		t.Errorf("UndoOf(%s, %s) = %s, %d, want %s, %d", show(l), showTree(list), show(got), code, show(want), wantCode)
	}
}

func checkRebase(t *testing.T, l []impl.Record, list []impl.Node, want []impl.Record, wantCode int) {
	t.Helper()
	if got, code := impl.Rebase(l, list); !slices.Equal(got, want) || code != wantCode {
		t.Errorf("Rebase(%s, %s) = %s, %d, want %s, %d", show(l), showTree(list), show(got), code, show(want), wantCode)
	}
}

func checkSize(t *testing.T, l []impl.Record, want, wantCode int) {
	t.Helper()
	if got, code := impl.SizeOf(l); got != want || code != wantCode {
		t.Errorf("SizeOf(%s) = %d, %d, want %d, %d", show(l), got, code, want, wantCode)
	}
}

// checkTransformed is promise 11 for one pair of trees: the layer is that of the document, makes b of a, and does not without any of its records.
func checkTransformed(t *testing.T, a, b []impl.Node) int {
	t.Helper()
	want, wantCode := limitedBetween(betweenByRule(a, b))
	checkBetween(t, a, b, want, wantCode)
	checkTouched(t, a, b, touchedByRule(a, b), 0)
	l, code := impl.LayerBetween(a, b)
	if code != 0 {
		return code
	}
	checkApply(t, l, a, b, 0)
	if !impl.IsCanonical(l) {
		t.Errorf("LayerBetween(%s, %s) is not canonical: %s", showTree(a), showTree(b), show(l))
	}
	for i, r := range l {
		if i+1 < len(l) && parentByRule(l[i+1].Path) == r.Path {
			continue
		}
		rest := slices.Delete(slices.Clone(l), i, i+1)
		if got, _ := impl.Apply(rest, a); slices.Equal(got, b) {
			t.Errorf("LayerBetween(%s, %s) has a record more than it needs: %q", showTree(a), showTree(b), []any{r})
		}
	}
	return code
}

// checkMoved checks a tree against another one in both directions.
func checkMoved(t *testing.T, a, b []impl.Node, forth, back []impl.Record, touched ...string) {
	t.Helper()
	checkBetween(t, a, b, forth, 0)
	checkBetween(t, b, a, back, 0)
	checkTouched(t, a, b, touched, 0)
	checkTransformed(t, a, b)
	checkTransformed(t, b, a)
}

// otherNodes returns trees with other bodies and modes.
func otherNodes(trees [][]impl.Node) [][]impl.Node {
	for _, list := range trees {
		for i := range list {
			if list[i].Kind == impl.KindDir {
				list[i].Mode += 256
			} else {
				list[i].Body += "!"
			}
		}
	}
	return trees
}

// besideTrees returns all trees that have nothing, a file, a link or a directory at each of some paths above one another and beside one another, also with bytes before '/'.
func besideTrees() [][]impl.Node {
	all := [][]impl.Node{nil}
	for _, path := range []string{"a", "a/b", "a/b/d", "a/c", "a!"} {
		for _, list := range slices.Clone(all) {
			for _, r := range layer(file(path, "t", 100), link(path, "t"), dir(path, 100)) {
				if more := append(slices.Clone(list), nodeOf(r)); treeByRule(more) {
					all = append(all, more)
				}
			}
		}
	}
	return all
}

func TestEveryPairOfTreesOfAChain(t *testing.T) {
	trees := append(chainTrees(), otherNodes(chainTrees())...)
	for _, a := range trees {
		for _, b := range trees {
			if code := checkTransformed(t, a, b); code != 0 {
				t.Fatalf("LayerBetween(%s, %s) has the code %d", showTree(a), showTree(b), code)
			}
		}
	}
}

func TestPairsOfTreesBesideOneAnother(t *testing.T) {
	random := rand.New(rand.NewSource(11))
	trees, others := besideTrees(), otherNodes(besideTrees())
	for _, a := range trees {
		for range 12 {
			checkTransformed(t, a, trees[random.Intn(len(trees))])
			checkTransformed(t, a, others[random.Intn(len(others))])
		}
	}
}

// nearTree returns a tree that differs from list in a few nodes.
func nearTree(random *rand.Rand, list []impl.Node) []impl.Node {
	paths := append(poolPaths(), "a/b/c/new", "a/new", "new")
	for range 1 + random.Intn(4) {
		path := paths[random.Intn(len(paths))]
		at := slices.IndexFunc(list, func(n impl.Node) bool { return n.Path == path })
		if at >= 0 && list[at].Kind == impl.KindDir && random.Intn(2) == 0 {
			list = slices.Clone(list)
			list[at].Mode += 100
			continue
		}
		list, _ = removeByRule(list, path)
		if random.Intn(3) > 0 {
			list, _ = addByRule(list, tree(file(path, "n", 1), link(path, "n"), dir(path, 1))[random.Intn(3)])
		}
	}
	return list
}

func TestSomePairsOfTrees(t *testing.T) {
	random := rand.New(rand.NewSource(12))
	trees := append(append(someNodeLists(80), fullTrees()...), nil, base(), plainFiles(16))
	codes, lengths := map[int]int{}, map[int]int{}
	for _, a := range trees {
		for range 10 {
			near := nearTree(random, a)
			l, _ := impl.LayerBetween(a, near)
			lengths[len(l)]++
			for _, b := range [][]impl.Node{near, trees[random.Intn(len(trees))]} {
				codes[checkTransformed(t, a, b)]++
				codes[checkTransformed(t, b, a)]++
			}
		}
	}
	if codes[0] < 500 || codes[impl.ErrMany] < 100 || len(lengths) < 10 {
		t.Errorf("the codes of this test are %v, and the lengths of layers %v", codes, lengths)
	}
}

func TestNoLayerBetweenEqualTrees(t *testing.T) {
	for _, list := range append(append(someNodeLists(60), chainTrees()...), nil, []impl.Node{}, base(), plainFiles(24), fullTrees()[1]) {
		checkMoved(t, list, slices.Clone(list), nil, nil)
	}
	checkMoved(t, nil, []impl.Node{}, nil, nil)
}

func TestTheEmptyTreeOnEitherSideOfALayer(t *testing.T) {
	for _, empty := range [][]impl.Node{nil, {}} {
		checkMoved(t, empty, tree(file("a", "x", 1)), layer(file("a", "x", 1)), layer(white("a")), "a")
		checkMoved(t, empty, base(),
			layer(dir("d", 1), file("d/f", "x", 2), dir("d/m", 3), dir("d/m/n", 4), link("d/m/n/o", "y"), dir("e", 5), file("f", "x", 6), link("l", "y")),
			layer(white("d"), white("e"), white("f"), white("l")),
			"d", "d/f", "d/m", "d/m/n", "d/m/n/o", "e", "f", "l")
		for _, list := range someNodeLists(60) {
			whole, code := impl.LayerOfTree(list)
			checkBetween(t, empty, list, whole, code)
			var gone []impl.Record
			for _, n := range list {
				if !strings.Contains(n.Path, "/") {
					gone = append(gone, white(n.Path))
				}
			}
			checkBetween(t, list, empty, gone, 0)
		}
	}
}

// Each pair of records at one path differs in one field alone; what is beside it or above it is the same.
func TestNodesThatDifferInOneField(t *testing.T) {
	for _, path := range []string{"f", "d/f", "d/e/f", "d/e/f/g"} {
		above := dirsTo(parentByRule(path), 7)
		for _, pair := range [][2]impl.Record{
			{file(path, "x", 1), file(path, "x", 2)}, {file(path, "x", 0), file(path, "x", 511)}, {file(path, "", 1), file(path, "", 0)},
			{file(path, "x", 1), file(path, "y", 1)}, {file(path, "", 1), file(path, "x", 1)}, {file(path, "x", 1), file(path, "xx", 1)},
			{link(path, "x"), link(path, "y")}, {link(path, "x"), link(path, "x/")}, {dir(path, 1), dir(path, 2)}, {dir(path, 0), dir(path, 511)},
			{file(path, "x", 0), link(path, "x")}, {file(path, "", 3), dir(path, 3)},
		} {
			a, b := append(slices.Clone(above), pair[0]), append(slices.Clone(above), pair[1])
			checkMoved(t, tree(a...), tree(b...), b, a, path)
			beside := layer(file("A", "same", 1), dir("zap", 1), file("zap/f", "same", 1))
			checkMoved(t, with(tree(a...), beside...), with(tree(b...), beside...), b, a, path)
		}
	}
}

func TestWhatIsBelowAChangedDirectoryStays(t *testing.T) {
	before := base()
	after := base()
	after[0].Mode = 9
	checkMoved(t, before, after, layer(dir("d", 9)), layer(dir("d", 1)), "d")
	after[2].Mode = 9
	checkMoved(t, before, after, layer(dir("d", 9), dir("d/m", 9)), layer(dir("d", 1), dir("d/m", 3)), "d", "d/m")
	after[0].Mode = 1
	checkMoved(t, before, after, layer(dir("d", 1), dir("d/m", 9)), layer(dir("d", 1), dir("d/m", 3)), "d/m")
	after[4].Body = "z"
	checkMoved(t, before, after, layer(dir("d", 1), dir("d/m", 9), dir("d/m/n", 4), link("d/m/n/o", "z")), layer(dir("d", 1), dir("d/m", 3), dir("d/m/n", 4), link("d/m/n/o", "y")), "d/m", "d/m/n/o")
}

// What was below the directory is removed by the file or the link, without a whiteout.
func TestFilesAndLinksInPlaceOfDirectories(t *testing.T) {
	for _, path := range []string{"p", "d/p", "d/e/p"} {
		above := dirsTo(parentByRule(path), 7)
		beside := layer(file(path+"!", "same", 1), file("A", "same", 1), file("z", "same", 1))
		below := layer(dir(path, 1))
		for _, r := range layer(file(path+"/a", "x", 2), link(path+"/b", "y"), dir(path+"/c", 3)) {
			below = append(below, r)
			for _, other := range layer(file(path, "", 0), file(path, "x", 1), link(path, "y")) {
				a, b := append(slices.Clone(above), below...), append(slices.Clone(above), other)
				checkMoved(t, with(tree(a...), beside...), with(tree(b...), beside...), b, a, touchedByRule(tree(a...), tree(b...))...)
			}
		}
	}
	deep := layer(dir("p", 1), dir("p/q", 2), dir("p/q/r", 3), file("p/q/r/s", "x", 4))
	checkMoved(t, tree(deep...), tree(file("p", "x", 1)), layer(file("p", "x", 1)), deep, "p", "p/q", "p/q/r", "p/q/r/s")
	checkMoved(t, tree(deep...), tree(link("p", "y"), file("z", "", 0)), layer(link("p", "y"), file("z", "", 0)), append(deep[:4:4], white("z")), "p", "p/q", "p/q/r", "p/q/r/s", "z")
	checkMoved(t, tree(deep...), tree(dir("p", 1), link("p/q", "y")), layer(dir("p", 1), link("p/q", "y")), deep, "p/q", "p/q/r", "p/q/r/s")
	checkMoved(t, tree(deep...), tree(dir("p", 5), file("p/q", "", 0)), layer(dir("p", 5), file("p/q", "", 0)), deep, "p", "p/q", "p/q/r", "p/q/r/s")
	checkMoved(t, tree(deep...), tree(dir("p", 1), dir("p/q", 2), file("p/q/r", "", 0)), layer(dir("p", 1), dir("p/q", 2), file("p/q/r", "", 0)), deep, "p/q/r", "p/q/r/s")
}

// A path that is gone has a whiteout exactly if its parent stays.
func TestPathsThatAreGone(t *testing.T) {
	chain := layer(dir("p", 1), dir("p/q", 2), dir("p/q/r", 3), file("p/q/r/s", "x", 4))
	for i, r := range chain {
		kept := chain[:i:i]
		checkMoved(t, tree(chain...), tree(kept...), append(kept, white(r.Path)), chain, touchedByRule(tree(chain...), tree(kept...))...)
	}
	for _, r := range layer(file("f", "x", 1), link("f", "y"), dir("f", 1)) {
		checkMoved(t, tree(r), nil, layer(white("f")), layer(r), "f")
		below := r
		below.Path = "p/f"
		checkMoved(t, tree(dir("p", 1), below), tree(dir("p", 1)), layer(dir("p", 1), white("p/f")), layer(dir("p", 1), below), "p/f")
		checkMoved(t, tree(dir("p", 1), below), tree(dir("p", 2)), layer(dir("p", 2), white("p/f")), layer(dir("p", 1), below), "p", "p/f")
	}
	many := layer(dir("p", 1), file("p/a", "", 0), dir("p/b", 1), file("p/b/c", "", 0), dir("p/b/d", 1), link("p/e", "y"), file("q", "", 0))
	checkMoved(t, tree(many...), tree(dir("p", 1)), layer(dir("p", 1), white("p/a"), white("p/b"), white("p/e"), white("q")), many, "p/a", "p/b", "p/b/c", "p/b/d", "p/e", "q")
	checkMoved(t, tree(many...), tree(dir("p", 1), dir("p/b", 1)),
		layer(dir("p", 1), white("p/a"), dir("p/b", 1), white("p/b/c"), white("p/b/d"), white("p/e"), white("q")), many, "p/a", "p/b/c", "p/b/d", "p/e", "q")
	checkMoved(t, tree(many...), tree(file("q", "", 0)), layer(white("p")), many[:6], "p", "p/a", "p/b", "p/b/c", "p/b/d", "p/e")
	checkMoved(t, tree(many...), tree(file("p", "", 0)), layer(file("p", "", 0), white("q")), many, "p", "p/a", "p/b", "p/b/c", "p/b/d", "p/e", "q")
}

// One of the letters of a path alone makes no parent, and the order of paths is not that of strings.
func TestPathsThatBeginLikeAChangedOne(t *testing.T) {
	list := tree(dir("a", 1), dir("a/b", 1), file("a/b/c", "", 0), file("a/b!", "", 0), dir("a!", 1), file("a!/b", "", 0), dir("ab", 1), file("ab/c", "", 0))
	checkMoved(t, list, with(list[3:], dir("a", 1)), layer(dir("a", 1), white("a/b")), layer(dir("a", 1), dir("a/b", 1), file("a/b/c", "", 0)), "a/b", "a/b/c")
	checkMoved(t, list, list[4:], layer(white("a")), layer(dir("a", 1), dir("a/b", 1), file("a/b/c", "", 0), file("a/b!", "", 0)), "a", "a/b", "a/b/c", "a/b!")
	checkMoved(t, list[:6], list[4:], layer(white("a"), dir("ab", 1), file("ab/c", "", 0)),
		layer(dir("a", 1), dir("a/b", 1), file("a/b/c", "", 0), file("a/b!", "", 0), white("ab")), "a", "a/b", "a/b/c", "a/b!", "ab", "ab/c")
	checkMoved(t, tree(dir("a", 1), file("a!", "x", 0)), tree(dir("a", 1), file("a/b", "", 0), file("a!", "y", 0)),
		layer(dir("a", 1), file("a/b", "", 0), file("a!", "y", 0)), layer(dir("a", 1), white("a/b"), file("a!", "x", 0)), "a/b", "a!")
}

// An ancestor is there once, before what is below it, with b's Mode; unchanged paths beside it are not there.
func TestAncestorsOfChangedPaths(t *testing.T) {
	a := tree(dir("d", 1), dir("d/a", 2), file("d/a/f", "", 0), file("d/a/g", "", 0), dir("d/b", 3), file("d/b/f", "", 0), dir("d/c", 4), dir("d/c/e", 5), file("d/c/e/f", "", 0), file("e", "", 0))
	b := with(a, file("d/a/h", "new", 0), file("d/a/i", "new", 0), file("d/c/e/g", "new", 0), file("d/c/h", "new", 0))
	checkMoved(t, a, b,
		layer(dir("d", 1), dir("d/a", 2), file("d/a/h", "new", 0), file("d/a/i", "new", 0), dir("d/c", 4), dir("d/c/e", 5), file("d/c/e/g", "new", 0), file("d/c/h", "new", 0)),
		layer(dir("d", 1), dir("d/a", 2), white("d/a/h"), white("d/a/i"), dir("d/c", 4), dir("d/c/e", 5), white("d/c/e/g"), white("d/c/h")),
		"d/a/h", "d/a/i", "d/c/e/g", "d/c/h")
	b[0].Mode = 9
	checkMoved(t, a, b[:1:1], layer(dir("d", 9), white("d/a"), white("d/b"), white("d/c"), white("e")),
		layer(dir("d", 1), dir("d/a", 2), file("d/a/f", "", 0), file("d/a/g", "", 0), dir("d/b", 3), file("d/b/f", "", 0), dir("d/c", 4), dir("d/c/e", 5), file("d/c/e/f", "", 0), file("e", "", 0)),
		touchedByRule(a, b[:1])...)
	for _, path := range []string{"f", "d/f", "d/e/f", "d/e/f/g"} {
		above := dirsTo(parentByRule(path), 7)
		changed := append(slices.Clone(above), file(path, "x", 0))
		checkMoved(t, tree(above...), tree(changed...), changed, append(slices.Clone(above), white(path)), path)
	}
}

// Ancestors count, and neither an unchanged node nor a path that is gone with its parent does.
func TestSixteenAndSeventeenRecordsBetweenTrees(t *testing.T) {
	for n := 14; n <= 18; n++ {
		few := dirsTo("p/q", 1)
		many := append(dirsTo("p", 1), inDir("p/q", "n", n-2)...)
		want, code := limitedBetween(many)
		if (code == 0) != (n <= 16) {
			t.Fatalf("the layer of %d records has the code %d", n, code)
		}
		checkBetween(t, tree(few...), tree(many...), want, code)
		checkTransformed(t, tree(few...), tree(many...))
		checkMoved(t, tree(many...), with(tree(many...), file("z", "", 0)), layer(file("z", "", 0)), layer(white("z")), "z")
		checkBetween(t, tree(many...), tree(dir("p", 1)), layer(dir("p", 1), white("p/q")), 0)
		gone := slices.Clone(few)
		for _, r := range many[2:] {
			gone = append(gone, white(r.Path))
		}
		want, code = limitedBetween(gone)
		checkBetween(t, tree(many...), tree(few...), want, code)
		want, code = limitedBetween(whites(n))
		checkBetween(t, plainFiles(n), nil, want, code)
		beside := tree(dir("z", 1), file("z/f", "", 0))
		checkBetween(t, append(plainFiles(n), beside...), beside, want, code)
	}
}

func TestTheLargestDifferences(t *testing.T) {
	a, b := plainFiles(24), tree(filesAt("Z", 24)...)
	checkBetween(t, a, nil, nil, impl.ErrMany)
	checkBetween(t, nil, a, nil, impl.ErrMany)
	checkBetween(t, a, b, nil, impl.ErrMany)
	all := append(pathsOfTrees(a, nil), pathsOfTrees(nil, b)...)
	if len(all) != 48 {
		t.Fatalf("this test has %d paths", len(all))
	}
	checkTouched(t, a, b, all, 0)
	checkTouched(t, a, nil, all[:24], 0)
	checkTouched(t, a, otherNodes([][]impl.Node{plainFiles(24)})[0], all[:24], 0)
	deep := tree(inDir("p", "n", 23)...)
	checkBetween(t, deep, nil, layer(white("p")), 0)
	checkBetween(t, deep, deep[:9], append(layer(dir("p", 1)), whitesOf(deep[9:])...), 0)
	checkBetween(t, deep, deep[:8], nil, impl.ErrMany)
	checkTouched(t, deep, nil, pathsOfTrees(deep, nil), 0)
}

func whitesOf(list []impl.Node) []impl.Record {
	var l []impl.Record
	for _, n := range list {
		l = append(l, white(n.Path))
	}
	return l
}

// checkUndone is promise 11 for one layer on one tree: what the layer does is undone behind it, and is done again by what is undone of that.
func checkUndone(t *testing.T, l []impl.Record, list []impl.Node) (int, int) {
	t.Helper()
	after := afterByRule(l, list)
	if len(after) > 24 {
		checkUndo(t, l, list, nil, impl.ErrFull)
		checkRebase(t, l, list, nil, impl.ErrFull)
		return impl.ErrFull, impl.ErrFull
	}
	undo, undoCode := limitedBetween(betweenByRule(after, list))
	again, againCode := limitedBetween(betweenByRule(list, after))
	checkUndo(t, l, list, undo, undoCode)
	checkRebase(t, l, list, again, againCode)
	if undoCode == 0 {
		checkApply(t, undo, after, list, 0)
		checkApplyAll(t, stack(l, undo), list, list, 0)
		checkUndo(t, undo, after, again, againCode)
		checkRebase(t, undo, after, undo, 0)
	}
	if againCode == 0 {
		checkApply(t, again, list, after, 0)
		checkUndo(t, again, list, undo, undoCode)
		checkRebase(t, again, list, again, 0)
	}
	return undoCode, againCode
}

func TestEveryLayerOfAChainUndoneOnEveryTreeOfIt(t *testing.T) {
	trees := chainTrees()
	for _, l := range chainLayers() {
		for _, list := range trees {
			if undoCode, code := checkUndone(t, l, list); undoCode != 0 || code != 0 {
				t.Fatalf("UndoOf and Rebase of %s and %s have the codes %d and %d", show(l), showTree(list), undoCode, code)
			}
		}
	}
}

func TestSomeLayersUndoneOnSomeTrees(t *testing.T) {
	trees := append(append(someNodeLists(60), fullTrees()...), nil, base(), plainFiles(16))
	for n := 8; n <= 20; n++ {
		trees = append(trees, with(tree(inDir("a", "n", n)...), inDir("b", "n", 22-n)...))
	}
	codes := map[[2]int]int{}
	for i, l := range append(append(someLayers(300), besideLayers()...), nil, whites(16)) {
		for k := range 4 {
			undoCode, code := checkUndone(t, l, trees[(4*i+k)%len(trees)])
			codes[[2]int{undoCode, code}]++
		}
	}
	for _, pair := range [][2]int{{0, 0}, {impl.ErrMany, impl.ErrMany}, {impl.ErrMany, 0}, {0, impl.ErrMany}, {impl.ErrFull, impl.ErrFull}} {
		if codes[pair] < 5 {
			t.Errorf("the codes of this test are %v", codes)
		}
	}
}

// checkUndoAndRebase checks a layer on base.
func checkUndoAndRebase(t *testing.T, l, undo, again []impl.Record) {
	t.Helper()
	checkUndo(t, l, base(), undo, 0)
	checkRebase(t, l, base(), again, 0)
	checkUndone(t, l, base())
}

func TestUndoneLayers(t *testing.T) {
	d, below := dir("d", 1), layer(file("d/f", "x", 2), dir("d/m", 3), dir("d/m/n", 4), link("d/m/n/o", "y"))
	gone := layer(d, white("d/f"), white("d/m"))
	checkUndoAndRebase(t, nil, nil, nil)
	checkUndoAndRebase(t, layer(file("new", "x", 1)), layer(white("new")), layer(file("new", "x", 1)))
	checkUndoAndRebase(t, layer(dir("new", 1), link("new/l", "y")), layer(white("new")), layer(dir("new", 1), link("new/l", "y")))
	checkUndoAndRebase(t, layer(file("f", "new", 6)), layer(file("f", "x", 6)), layer(file("f", "new", 6)))
	checkUndoAndRebase(t, layer(white("d"), white("l")), slices.Concat(layer(d), below, layer(link("l", "y"))), layer(white("d"), white("l")))
	checkUndoAndRebase(t, layer(opaque("d", 1)), slices.Concat(layer(d), below), gone)
	checkUndoAndRebase(t, layer(opaque("d", 9)), slices.Concat(layer(d), below), layer(dir("d", 9), white("d/f"), white("d/m")))
	checkUndoAndRebase(t, layer(opaque("d", 1), file("d/f", "x", 2)), append(layer(d), below[1:]...), layer(d, white("d/m")))
	checkUndoAndRebase(t, layer(opaque("d", 1), dir("d/m", 3)), slices.Concat(layer(d), below), layer(d, white("d/f"), dir("d/m", 3), white("d/m/n")))
	checkUndoAndRebase(t, layer(file("d", "new", 0)), slices.Concat(layer(d), below), layer(file("d", "new", 0)))
	checkUndoAndRebase(t, layer(dir("f", 9), white("f/g"), file("f/h", "new", 0)), layer(file("f", "x", 6)), layer(dir("f", 9), file("f/h", "new", 0)))
	checkUndoAndRebase(t, layer(d, dir("d/m", 8)), layer(d, dir("d/m", 3)), layer(d, dir("d/m", 8)))
	checkUndoAndRebase(t, layer(d, link("d/m", "new")), append(layer(d), below[1:]...), layer(d, link("d/m", "new")))
}

// The records of such layers are on paths at which nothing happens, or are those of the tree itself.
func TestLayersWithoutAnEffect(t *testing.T) {
	for _, l := range [][]impl.Record{nil, {}, whites(16), layer(white("zap")), layer(dir("d", 1)), layer(dir("d", 1), white("d/zap")), layer(file("f", "x", 6)), layer(link("l", "y")), layer(opaque("e", 5), white("e/x"))} {
		checkUndoAndRebase(t, l, nil, nil)
	}
	for _, list := range append(someNodeLists(60), nil, base(), plainFiles(16)) {
		if l, code := impl.LayerOfTree(list); code == 0 {
			checkUndo(t, l, list, nil, 0)
			checkRebase(t, l, list, nil, 0)
		}
	}
}

// One record removes, and as many as it removed are needed for the undoing; or the other way round.
func TestSixteenAndSeventeenRecordsThatUndo(t *testing.T) {
	for n := 13; n <= 17; n++ {
		full := inDir("p", "n", n)
		whole, code := limitedBetween(full)
		if (code == 0) != (n <= 15) {
			t.Fatalf("the layer of %d files has the code %d", n, code)
		}
		checkUndo(t, layer(white("p")), tree(full...), whole, code)
		checkRebase(t, layer(white("p")), tree(full...), layer(white("p")), 0)
		checkUndo(t, layer(opaque("p", 1)), tree(full...), whole, code)
		gone, code := limitedBetween(append(layer(dir("p", 1)), whitesOf(tree(full[1:]...))...))
		checkRebase(t, layer(opaque("p", 1)), tree(full...), gone, code)
		checkUndone(t, layer(opaque("p", 2), file("p/x", "", 0)), tree(full...))
	}
	for n := range 3 {
		l := filesAt("n", 14+n)
		checkUndo(t, l, tree(file("A", "", 0)), whitesOf(tree(l...)), 0)
		checkRebase(t, l, tree(file("A", "", 0)), l, 0)
	}
	// The layer itself has 16 records, and one whiteout beside them is needed for what its opaque directory removes.
	l := append(layer(opaque("p", 1)), inDir("p", "n", 15)[1:]...)
	checkRebase(t, l, tree(dir("p", 1), file("p/z", "", 0)), nil, impl.ErrMany)
	checkUndo(t, l, tree(dir("p", 1), file("p/z", "", 0)), nil, impl.ErrMany)
	checkRebase(t, l[:15], tree(dir("p", 1), file("p/z", "", 0)), append(layer(dir("p", 1)), append(slices.Clone(l[1:15]), white("p/z"))...), 0)
	checkUndone(t, l[:15], tree(dir("p", 1), file("p/z", "", 0)))
}

func TestResultsOfTwentyFourAndTwentyFiveNodesAreUndone(t *testing.T) {
	for n := 6; n <= 10; n++ {
		l := filesAt("n", n)
		undo, again, code := whitesOf(tree(l...)), l, 0
		if n > 8 {
			undo, again, code = nil, nil, impl.ErrFull
		}
		checkUndo(t, l, plainFiles(16), undo, code)
		checkRebase(t, l, plainFiles(16), again, code)
	}
	// The layers between such a tree and the result would have more than 16 records, too.
	list := append(plainFiles(10), tree(inDir("p", "n", 13)...)...)
	for n := 11; n <= 15; n++ {
		code := impl.ErrMany
		if n > 13 {
			code = impl.ErrFull
		}
		l := append(layer(opaque("p", 1)), inDir("p", "x", n)[1:]...)
		checkUndo(t, l, list, nil, code)
		checkRebase(t, l, list, nil, code)
	}
	for _, full := range fullTrees() {
		checkUndo(t, layer(file("zz", "", 0)), full, nil, impl.ErrFull)
		checkRebase(t, layer(file("zz", "", 0)), full, nil, impl.ErrFull)
		checkUndone(t, layer(white("Aa"), file("zz", "", 0)), full)
	}
}

func TestSizes(t *testing.T) {
	checkSize(t, nil, 0, 0)
	checkSize(t, layer(), 0, 0)
	for n := range 17 {
		checkSize(t, whites(n), 6*n, 0)
		checkSize(t, filesAt("p", n), 6*n, 0)
	}
	checkSize(t, layer(file("a", "", 0)), 5, 0)
	checkSize(t, layer(file("a", "", 511)), 5, 0)
	checkSize(t, layer(file("a", "xyz", 0)), 8, 0)
	checkSize(t, layer(file("a", strings.Repeat("\xff", 20), 0)), 25, 0)
	checkSize(t, layer(link("abcdefgh", "a/b")), 15, 0)
	checkSize(t, layer(white("ab")), 6, 0)
	checkSize(t, layer(dir("a", 1), opaque("a/b", 2)), 5+7, 0)
	checkSize(t, layer(opaque("a", 1), white("a/b"), file("a/c", "xy", 3), link("b", "z")), 5+7+9+6, 0)
	l := dirsTo("aaaaaaaa/bbbbbbbb/cccccccc", 1)
	for i := range 13 {
		l = append(l, file("aaaaaaaa/bbbbbbbb/cccccccc/ddddddd"+string([]byte{byte('a' + i)}), strings.Repeat("x", 20), 1))
	}
	checkSize(t, l, 12+21+30+13*59, 0)
}

// The layer is measured as it is, also where its canonical form is smaller.
func TestSizesOfSomeLayers(t *testing.T) {
	for _, l := range append(someLayers(300), append(chainLayers(), otherBodies(chainLayers())...)...) {
		text := ""
		for _, r := range l {
			text += r.Path + r.Body + "+4.."
		}
		checkSize(t, l, len(text), 0)
	}
}

// checkNoLayerBetween checks that two lists of which at least one is not a tree are refused, with zero values.
func checkNoLayerBetween(t *testing.T, a, b []impl.Node, want int) {
	t.Helper()
	checkBetween(t, a, b, nil, want)
	checkBetween(t, b, a, nil, want)
	checkTouched(t, a, b, nil, want)
}

func checkNotUndone(t *testing.T, l []impl.Record, list []impl.Node, want int) {
	t.Helper()
	checkUndo(t, l, list, nil, want)
	checkRebase(t, l, list, nil, want)
}

// ErrBad precedes ErrMany, and ErrLong precedes both, on either side; two equal lists that are not trees are not equal trees.
func TestNoLayersBetweenListsThatAreNotTrees(t *testing.T) {
	long := make([]impl.Node, impl.MaxList+1)
	copy(long, plainFiles(24))
	for _, bad := range notTrees() {
		for _, other := range append(notTrees(), nil, base(), plainFiles(24), tree(file("a", "", 0))) {
			checkNoLayerBetween(t, bad, other, impl.ErrBad)
		}
		checkNoLayerBetween(t, bad, long, impl.ErrLong)
	}
	for _, n := range badNodes() {
		checkNoLayerBetween(t, []impl.Node{n}, nil, impl.ErrBad)
	}
	for _, other := range [][]impl.Node{nil, base(), plainFiles(24), long, make([]impl.Node, impl.MaxList), make([]impl.Node, impl.MaxList+100)} {
		checkNoLayerBetween(t, long, other, impl.ErrLong)
	}
	checkNoLayerBetween(t, make([]impl.Node, impl.MaxList), nil, impl.ErrBad)
}

// ErrBad precedes ErrFull and ErrMany, and ErrLong precedes all, whichever argument it is.
func TestListsThatAreNotUndone(t *testing.T) {
	longLayer, longTree := make([]impl.Record, impl.MaxList+1), make([]impl.Node, impl.MaxList+1)
	copy(longLayer, whites(16))
	copy(longTree, plainFiles(24))
	for _, bad := range notLayers() {
		for _, list := range append(notTrees(), nil, base(), plainFiles(24)) {
			checkNotUndone(t, bad, list, impl.ErrBad)
		}
		if len(bad) < impl.MaxList {
			checkNotUndone(t, append(slices.Clone(bad), filesAt("Z", 16)...), plainFiles(24), impl.ErrBad)
		}
		checkNotUndone(t, bad, longTree, impl.ErrLong)
	}
	for _, bad := range notTrees() {
		for _, l := range [][]impl.Record{nil, whites(16), filesAt("Z", 16), layer(opaque("a", 0))} {
			checkNotUndone(t, l, bad, impl.ErrBad)
		}
		checkNotUndone(t, longLayer, bad, impl.ErrLong)
	}
	for _, list := range [][]impl.Node{nil, plainFiles(24), longTree} {
		checkNotUndone(t, longLayer, list, impl.ErrLong)
	}
	for _, l := range [][]impl.Record{nil, whites(16), filesAt("Z", 16)} {
		checkNotUndone(t, l, longTree, impl.ErrLong)
	}
}

func TestListsWithoutASize(t *testing.T) {
	for _, bad := range notLayers() {
		checkSize(t, bad, 0, impl.ErrBad)
	}
	long := make([]impl.Record, impl.MaxList+1)
	copy(long, whites(16))
	checkSize(t, long, 0, impl.ErrLong)
	checkSize(t, make([]impl.Record, impl.MaxList), 0, impl.ErrBad)
	checkSize(t, make([]impl.Record, impl.MaxList+1), 0, impl.ErrLong)
}
