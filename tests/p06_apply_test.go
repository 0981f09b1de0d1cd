package tests

import (
	"fmt"
	"maps"
	"math/rand"
	"slices"
	"strings"
	"testing"

	"loop.example/g00798/impl"
)

func stack(layers ...[]impl.Record) [][]impl.Record {
	return layers
}

func showStack(list [][]impl.Record) string {
	return fmt.Sprintf("%.600s", fmt.Sprintf("%q", []any{list}))
}

func sortedByPath(list []impl.Node) []impl.Node {
	slices.SortFunc(list, func(a, b impl.Node) int { return strings.Compare(orderKey(a.Path), orderKey(b.Path)) })
	return list
}

// afterByRule says path by path what is there after a layer was applied, in another way than the program, which goes record by record.
func afterByRule(l []impl.Record, list []impl.Node) []impl.Node {
	records := map[string]impl.Record{}
	for _, r := range l {
		records[r.Path] = r
	}
	var out []impl.Node
	for _, r := range l {
		if r.Kind != 4 {
			out = append(out, nodeOf(r))
		}
	}
	for _, n := range list {
		_, gone := records[n.Path]
		for up := parentByRule(n.Path); up != ""; up = parentByRule(up) {
			r, found := records[up]
			gone = gone || found && (r.Kind != 3 || r.Opaque)
		}
		if !gone {
			out = append(out, n)
		}
	}
	return sortedByPath(out)
}

func afterAllByRule(list [][]impl.Record, t []impl.Node) []impl.Node {
	for _, l := range list {
		t = afterByRule(l, t)
	}
	return t
}

// limitedByRule returns what Apply and ApplyAll return for a result of any size.
func limitedByRule(list []impl.Node) ([]impl.Node, int) {
	if len(list) > 24 {
		return nil, impl.ErrFull
	}
	return list, 0
}

func checkApply(t *testing.T, l []impl.Record, list, want []impl.Node, wantCode int) {
	t.Helper()
	if got, code := impl.Apply(l, list); !slices.Equal(got, want) || code != wantCode {
		t.Errorf("Apply(%s, %s) = %s, %d, want %s, %d", show(l), showTree(list), showTree(got), code, showTree(want), wantCode)
	}
}

func checkApplyAll(t *testing.T, layers [][]impl.Record, list, want []impl.Node, wantCode int) {
	t.Helper()
	if got, code := impl.ApplyAll(layers, list); !slices.Equal(got, want) || code != wantCode {
		t.Errorf("ApplyAll(%s, %s) = %s, %d, want %s, %d", showStack(layers), showTree(list), showTree(got), code, showTree(want), wantCode)
	}
}

func checkView(t *testing.T, layers [][]impl.Record, want []impl.Node, wantCode int) {
	t.Helper()
	if got, code := impl.ViewOf(layers); !slices.Equal(got, want) || code != wantCode {
		t.Errorf("ViewOf(%s) = %s, %d, want %s, %d", showStack(layers), showTree(got), code, showTree(want), wantCode)
	}
}

func checkChanges(t *testing.T, l []impl.Record, list []impl.Node, want bool, wantCode int) {
	t.Helper()
	if got, code := impl.Changes(l, list); got != want || code != wantCode {
		t.Errorf("Changes(%s, %s) = %v, %d, want %v, %d", show(l), showTree(list), got, code, want, wantCode)
	}
}

// checkEffect checks what a layer does to a tree: once, twice, alone and as a stack.
func checkEffect(t *testing.T, l []impl.Record, list, after []impl.Node) {
	t.Helper()
	want, code := limitedByRule(after)
	checkApply(t, l, list, want, code)
	checkApplyAll(t, stack(l), list, want, code)
	checkApplyAll(t, stack(l, l), list, want, code)
	checkChanges(t, l, list, !slices.Equal(after, list), 0)
	if code == 0 {
		checkApply(t, l, want, want, 0)
		checkChanges(t, l, want, false, 0)
	}
}

// chainPaths are one path of each depth.
func chainPaths() []string {
	return []string{"a", "a/b", "a/b/c", "a/b/c/d"}
}

// chainLayers returns all layers of variants at the paths of the chain.
func chainLayers() [][]impl.Record {
	var all [][]impl.Record
	everyLayer(chainPaths(), nil, func(l []impl.Record) {
		if _, code := layerFaultByRule(l); code == 0 {
			all = append(all, l)
		}
	})
	return all
}

// chainTrees returns all trees that have nothing, a file, a link or a directory at each path of the chain, each directory with and without a file beside the chain.
func chainTrees() [][]impl.Node {
	all := [][]impl.Node{nil}
	for _, path := range append(chainPaths(), "a/b/c/k", "a/b/k", "a/k") {
		choices := tree(file(path, "t", 100))
		if !strings.HasSuffix(path, "k") {
			choices = append(choices, tree(link(path, "t"), dir(path, 100))...)
		}
		for _, list := range slices.Clone(all) {
			for _, n := range choices {
				if more := append(slices.Clone(list), n); treeByRule(more) {
					all = append(all, more)
				}
			}
		}
	}
	return all
}

func TestConstantsOfStacks(t *testing.T) {
	if impl.MaxLayers != 5 {
		t.Error("a constant differs from the document")
	}
}

func TestEveryLayerOfAChainOnEveryTreeOfIt(t *testing.T) {
	layers, trees := chainLayers(), chainTrees()
	if len(layers) != 76 || len(trees) != 53 {
		t.Fatalf("this test has %d layers and %d trees", len(layers), len(trees))
	}
	for _, l := range layers {
		for _, list := range trees {
			checkEffect(t, l, list, afterByRule(l, list))
		}
	}
}

// The two readings of chapter 6 in these tests agree: record by record, and path by path.
func TestTheRulesOfApplyingAgree(t *testing.T) {
	trees := chainTrees()
	for _, l := range chainLayers() {
		for _, list := range trees {
			byPath := map[string]impl.Node{}
			for _, n := range list {
				byPath[n.Path] = n
			}
			after := slices.Collect(maps.Values(applyByRule(l, byPath)))
			if !slices.Equal(sortedByPath(after), afterByRule(l, list)) {
				t.Fatalf("the rules differ for %s and %s", show(l), showTree(list))
			}
		}
	}
}

// base has a file, a link, a directory with nothing below it, and directories with nodes below them.
func base() []impl.Node {
	return tree(dir("d", 1), file("d/f", "x", 2), dir("d/m", 3), dir("d/m/n", 4), link("d/m/n/o", "y"), dir("e", 5), file("f", "x", 6), link("l", "y"))
}

// without returns the nodes of base that are neither at a path nor below it.
func without(path string) []impl.Node {
	return slices.DeleteFunc(base(), func(n impl.Node) bool { return strings.HasPrefix(n.Path+"/", path+"/") })
}

// with returns a tree to which nodes are added, in the order of paths.
func with(list []impl.Node, records ...impl.Record) []impl.Node {
	return sortedByPath(append(slices.Clone(list), tree(records...)...))
}

func TestDirectoriesThatReplaceSomethingElse(t *testing.T) {
	for _, path := range []string{"f", "l"} {
		for _, r := range layer(dir(path, 9), opaque(path, 9)) {
			checkEffect(t, layer(r), base(), with(without(path), dir(path, 9)))
			checkEffect(t, layer(r, file(path+"/g", "new", 7)), base(), with(without(path), dir(path, 9), file(path+"/g", "new", 7)))
			checkEffect(t, layer(r, dir(path+"/g", 7), opaque(path+"/g/h", 8)), base(), with(without(path), dir(path, 9), dir(path+"/g", 7), dir(path+"/g/h", 8)))
			checkEffect(t, layer(r, white(path+"/g")), base(), with(without(path), dir(path, 9)))
		}
	}
	kept := with(without("d/f"), dir("d/f", 9), file("d/f/g", "", 0))
	checkEffect(t, layer(dir("d", 1), dir("d/f", 9), file("d/f/g", "", 0)), base(), kept)
	checkEffect(t, layer(dir("d", 1), opaque("d/f", 9), file("d/f/g", "", 0)), base(), kept)
	deep := with(without("d/m/n/o"), dir("d/m/n/o", 9))
	checkEffect(t, layer(dir("d", 1), dir("d/m", 3), dir("d/m/n", 4), dir("d/m/n/o", 9)), base(), deep)
	checkEffect(t, layer(dir("d", 1), dir("d/m", 3), dir("d/m/n", 4), opaque("d/m/n/o", 9)), base(), deep)
}

func TestDirectoriesThatFindADirectory(t *testing.T) {
	kept := base()
	kept[0].Mode = 9
	checkEffect(t, layer(dir("d", 9)), base(), kept)
	checkEffect(t, layer(dir("d", 9), file("d/g", "", 0)), base(), with(kept, file("d/g", "", 0)))
	checkEffect(t, layer(opaque("d", 9)), base(), with(without("d"), dir("d", 9)))
	checkEffect(t, layer(opaque("d", 1)), base(), with(without("d"), dir("d", 1)))
	checkEffect(t, layer(opaque("d", 9), file("d/f", "new", 0)), base(), with(without("d"), dir("d", 9), file("d/f", "new", 0)))
	checkEffect(t, layer(opaque("d", 9), dir("d/m", 8), dir("d/m/n", 7)), base(), with(without("d"), dir("d", 9), dir("d/m", 8), dir("d/m/n", 7)))
	checkEffect(t, layer(dir("d", 1), opaque("d/m", 9)), base(), with(without("d/m"), dir("d/m", 9)))
	checkEffect(t, layer(dir("d", 1), dir("d/m", 3), opaque("d/m/n", 4)), base(), with(without("d/m/n"), dir("d/m/n", 4)))
	checkEffect(t, layer(dir("e", 9)), base(), with(without("e"), dir("e", 9)))
	checkEffect(t, layer(opaque("e", 9)), base(), with(without("e"), dir("e", 9)))
	for _, same := range [][]impl.Record{layer(dir("d", 1)), layer(dir("e", 5)), layer(opaque("e", 5)), layer(dir("d", 1), dir("d/m", 3), dir("d/m/n", 4))} {
		checkEffect(t, same, base(), base())
	}
}

func TestFilesAndLinksReplaceEverythingBelow(t *testing.T) {
	for _, path := range []string{"d", "e", "f", "l"} {
		checkEffect(t, layer(file(path, "new", 9)), base(), with(without(path), file(path, "new", 9)))
		checkEffect(t, layer(link(path, "new")), base(), with(without(path), link(path, "new")))
	}
	checkEffect(t, layer(dir("d", 1), file("d/m", "", 0)), base(), with(without("d/m"), file("d/m", "", 0)))
	checkEffect(t, layer(dir("d", 1), dir("d/m", 3), link("d/m/n", "z")), base(), with(without("d/m/n"), link("d/m/n", "z")))
	checkEffect(t, layer(file("f", "x", 6)), base(), base())
	checkEffect(t, layer(link("l", "y")), base(), base())
	checkEffect(t, layer(file("f", "X", 6)), base(), with(without("f"), file("f", "X", 6)))
	checkEffect(t, layer(file("f", "x", 7)), base(), with(without("f"), file("f", "x", 7)))
}

func TestWhiteouts(t *testing.T) {
	for _, path := range []string{"d", "e", "f", "l"} {
		checkEffect(t, layer(white(path)), base(), without(path))
	}
	checkEffect(t, layer(dir("d", 1), white("d/f")), base(), without("d/f"))
	checkEffect(t, layer(dir("d", 1), white("d/m")), base(), without("d/m"))
	checkEffect(t, layer(dir("d", 1), dir("d/m", 3), white("d/m/n")), base(), without("d/m/n"))
	checkEffect(t, layer(dir("d", 1), dir("d/m", 3), dir("d/m/n", 4), white("d/m/n/o")), base(), without("d/m/n/o"))
	checkEffect(t, layer(white("d"), white("e"), white("f"), white("l")), base(), nil)
}

// Also below what was a file until the layer, and where only the letters of a path are there.
func TestWhiteoutsOfWhatIsNotThere(t *testing.T) {
	for _, l := range [][]impl.Record{layer(white("zap")), layer(white("A")), layer(white("D")), layer(dir("d", 1), white("d/zap")), layer(dir("d", 1), dir("d/m", 3), white("d/m/f")), layer(dir("e", 5), white("e/f"))} {
		checkEffect(t, l, base(), base())
	}
	checkEffect(t, layer(dir("new", 9), white("new/f")), base(), with(base(), dir("new", 9)))
	checkEffect(t, layer(dir("f", 9), white("f/g")), base(), with(without("f"), dir("f", 9)))
	list := tree(dir("a", 1), file("a/b", "", 0), file("a!", "", 0), dir("ab", 1), file("ab/c", "", 0))
	checkEffect(t, layer(white("a")), list, list[2:])
	checkEffect(t, layer(opaque("a", 1)), list, slices.Delete(slices.Clone(list), 1, 2))
	checkEffect(t, layer(dir("a", 1), white("a/bb"), white("a/c")), list, list)
	checkEffect(t, whites(16), list, list)
	checkEffect(t, whites(16), nil, nil)
}

func TestEmptyLayersStacksAndTrees(t *testing.T) {
	for _, l := range [][]impl.Record{nil, {}} {
		for _, list := range append(someNodeLists(20), base(), nil, []impl.Node{}, fullTrees()[0], fullTrees()[1]) {
			checkEffect(t, l, list, list)
			checkApplyAll(t, nil, list, list, 0)
			checkApplyAll(t, stack(), list, list, 0)
			checkApplyAll(t, stack(l, nil, l, nil, l), list, list, 0)
		}
	}
	for _, empty := range [][]impl.Node{nil, {}} {
		checkEffect(t, layer(dir("a", 1), file("a/b", "x", 2), link("l", "y"), white("w")), empty, tree(dir("a", 1), file("a/b", "x", 2), link("l", "y")))
	}
	for _, list := range [][][]impl.Record{nil, {}, stack(nil), stack(layer()), make([][]impl.Record, 5)} {
		checkView(t, list, nil, 0)
		if !impl.StackOK(list) {
			t.Errorf("StackOK(%s) is false", showStack(list))
		}
	}
}

func TestSomeLayersOnSomeTrees(t *testing.T) {
	full, changed, same := 0, 0, 0
	trees := append(someNodeLists(60), fullTrees()...)
	for i, l := range someLayers(400) {
		for k := range 8 {
			list := trees[(8*i+k)%len(trees)]
			after := afterByRule(l, list)
			checkEffect(t, l, list, after)
			switch {
			case len(after) > 24:
				full++
			case slices.Equal(after, list):
				same++
			default:
				changed++
			}
		}
	}
	if full < 50 || changed < 50 || same < 1 {
		t.Errorf("this test has %d full results, %d changes and %d others", full, changed, same)
	}
}

// A tree is not changed by the layer of its own nodes, and is made of nothing by it.
func TestTheLayerOfATreeOnThatTree(t *testing.T) {
	for _, list := range append(someNodeLists(200), nil, plainFiles(16)) {
		if len(list) > 16 {
			continue
		}
		l, _ := impl.LayerOfTree(list)
		checkEffect(t, l, list, list)
		checkEffect(t, l, nil, list)
		checkView(t, stack(l), list, 0)
	}
}

// Promise 6 in its own words, with the functions of chapter 5.
func TestRecordsArePlacedAndTheRestIsUnchanged(t *testing.T) {
	trees := someNodeLists(60)
	for i, l := range someLayers(300) {
		list := trees[i%len(trees)]
		after, code := impl.Apply(l, list)
		if code != 0 {
			continue
		}
		if !impl.TreeOK(after) {
			t.Fatalf("Apply(%s, %s) is not a tree: %s", show(l), showTree(list), showTree(after))
		}
		touched := map[string]bool{}
		for _, r := range l {
			touched[r.Path] = true
			if n, code := impl.FindNode(after, r.Path); r.Kind == impl.KindWhite && code == 0 || r.Kind != impl.KindWhite && n != nodeOf(r) {
				t.Errorf("%q is %q, %d in the result", []any{r}, []any{n}, code)
			}
			if parts, _ := impl.ListDir(after, r.Path); r.Opaque && slices.ContainsFunc(parts, func(part string) bool { return !hasRecord(l, r.Path+"/"+part) }) {
				t.Errorf("%q has %q below it in the result", []any{r}, parts)
			}
			for _, n := range list {
				touched[n.Path] = touched[n.Path] || strings.HasPrefix(n.Path, r.Path+"/") && (r.Kind != impl.KindDir || r.Opaque)
			}
		}
		for _, n := range list {
			if !touched[n.Path] {
				checkFound(t, after, n.Path, n, 0)
			}
		}
		for _, n := range after {
			if !touched[n.Path] {
				checkFound(t, list, n.Path, n, 0)
			}
		}
	}
}

func hasRecord(l []impl.Record, path string) bool {
	return slices.ContainsFunc(l, func(r impl.Record) bool { return r.Path == path })
}

// someStacks returns random stacks of 0 to 5 layers, the same ones in each run.
func someStacks(n int) [][][]impl.Record {
	random := rand.New(rand.NewSource(6))
	layers := append(someLayers(60), chainLayers()...)
	var all [][][]impl.Record
	for i := range n {
		var list [][]impl.Record
		for range i % 6 {
			list = append(list, layers[random.Intn(len(layers))])
		}
		all = append(all, list)
	}
	return all
}

func TestSomeStacks(t *testing.T) {
	trees := append(append(someNodeLists(30), fullTrees()...), chainTrees()...)
	results, codes := map[int]int{}, map[int]int{}
	for i, list := range someStacks(1200) {
		if !impl.StackOK(list) {
			t.Fatalf("StackOK(%s) is false", showStack(list))
		}
		checkView(t, list, afterAllByRule(list, nil), 0)
		start := trees[i%len(trees)]
		want, code := limitedByRule(afterAllByRule(list, start))
		checkApplyAll(t, list, start, want, code)
		codes[code]++
		results[len(list)]++
	}
	if len(results) != 6 || codes[0] < 100 || codes[impl.ErrFull] < 20 {
		t.Errorf("the numbers of layers in this test are %v, and the codes %v", results, codes)
	}
}

// A stack is its layers one after the other, as long as none of the results is full.
func TestAStackIsItsLayersInOrder(t *testing.T) {
	compared := 0
	for _, list := range someStacks(600) {
		at, code := base(), 0
		for _, l := range list {
			if code == 0 {
				at, code = impl.Apply(l, at)
			}
		}
		if code == 0 {
			compared++
			checkApplyAll(t, list, base(), at, 0)
		}
	}
	if compared < 100 {
		t.Errorf("this test compares only %d stacks", compared)
	}
	lower, upper := layer(dir("a", 1), file("a/b", "1", 0)), layer(dir("a", 2), white("a/b"))
	checkView(t, stack(lower, upper), tree(dir("a", 2)), 0)
	checkView(t, stack(upper, lower), tree(dir("a", 1), file("a/b", "1", 0)), 0)
	checkView(t, stack(lower, layer(file("a", "", 0)), upper), tree(dir("a", 2)), 0)
	checkView(t, stack(lower, layer(white("a")), layer(dir("a", 3))), tree(dir("a", 3)), 0)
	checkView(t, stack(lower, layer(dir("a", 3))), tree(dir("a", 3), file("a/b", "1", 0)), 0)
	checkView(t, stack(lower, layer(opaque("a", 3))), tree(dir("a", 3)), 0)
}

// filesAt returns n files in order whose names begin with a letter.
func filesAt(letter string, n int) []impl.Record {
	var l []impl.Record
	for i := range n {
		l = append(l, file(letter+string([]byte{byte('a' + i)}), "", 0))
	}
	return l
}

func TestResultsOfTwentyFourAndMoreNodes(t *testing.T) {
	for n := 7; n <= 11; n++ {
		lower, upper := filesAt("L", 16), filesAt("U", n-1)
		upper = append(upper, dir("V", 1))
		all := tree(append(slices.Clone(lower), upper...)...)
		want, code := limitedByRule(all)
		if (code == 0) != (n <= 8) {
			t.Fatalf("the result for %d is %s, %d", n, showTree(want), code)
		}
		checkApply(t, upper, tree(lower...), want, code)
		checkApplyAll(t, stack(upper), tree(lower...), want, code)
		checkApplyAll(t, stack(lower, upper), nil, want, code)
		checkView(t, stack(lower, upper), all, 0)
		checkChanges(t, upper, tree(lower...), true, 0)
	}
	for _, full := range fullTrees() {
		checkApply(t, layer(file("zz", "", 0)), full, nil, impl.ErrFull)
		checkChanges(t, layer(file("zz", "", 0)), full, true, 0)
		checkEffect(t, layer(white("zz")), full, full)
		checkEffect(t, layer(white("Aa"), file("zz", "", 0)), full, with(slices.DeleteFunc(slices.Clone(full), func(n impl.Node) bool { return n.Path == "Aa" }), file("zz", "", 0)))
		checkEffect(t, layer(file("!", "", 0), white("Aa")), full, with(slices.DeleteFunc(slices.Clone(full), func(n impl.Node) bool { return n.Path == "Aa" }), file("!", "", 0)))
	}
}

func TestMoreNodesInBetween(t *testing.T) {
	lower, upper := filesAt("L", 16), filesAt("U", 16)
	var gone []impl.Record
	for _, r := range upper {
		gone = append(gone, white(r.Path))
	}
	both := tree(append(slices.Clone(lower), upper...)...)
	checkApplyAll(t, stack(lower, upper), nil, nil, impl.ErrFull)
	checkApplyAll(t, stack(lower, upper, gone[:7]), nil, nil, impl.ErrFull)
	checkApplyAll(t, stack(lower, upper, gone[:8]), nil, slices.Concat(both[:16], both[24:]), 0)
	checkApplyAll(t, stack(lower, upper, gone), nil, tree(lower...), 0)
	checkApplyAll(t, stack(upper, gone, upper, gone), tree(lower...), tree(lower...), 0)
	checkView(t, stack(lower, upper), both, 0)
	checkView(t, stack(lower, upper, gone), tree(lower...), 0)
	checkApplyAll(t, stack(upper, gone), plainFiles(24), plainFiles(24), 0)
	five := stack(filesAt("P", 16), filesAt("Q", 16), filesAt("R", 16), filesAt("S", 16), filesAt("T", 16))
	checkView(t, five, tree(slices.Concat(five...)...), 0)
	checkApplyAll(t, five, plainFiles(24), nil, impl.ErrFull)
	checkApplyAll(t, append(five[:4:4], layer(white("Z"))), nil, nil, impl.ErrFull)
	deep := layer(dir("d", 0))
	for i := range 15 {
		deep = append(deep, file("d/"+string([]byte{byte('a' + i)}), "", 0))
	}
	checkApplyAll(t, stack(deep, filesAt("U", 16), layer(opaque("d", 1))), nil, with(tree(upper...), dir("d", 1)), 0)
}

func TestStacksOfFiveAndSixLayers(t *testing.T) {
	for n := range 9 {
		for _, l := range [][]impl.Record{nil, layer(file("a", "x", 1)), whites(16)} {
			list := slices.Repeat(stack(l), n)
			if got := impl.StackOK(list); got != (n <= 5) {
				t.Errorf("StackOK of %d layers is %v", n, got)
			}
			if n > 5 {
				checkRefusedStack(t, list, nil, impl.ErrBad)
			}
		}
	}
	five := slices.Repeat(stack(layer(file("a", "x", 1))), 5)
	checkView(t, five, tree(file("a", "x", 1)), 0)
	checkApplyAll(t, five, base(), with(base(), file("a", "x", 1)), 0)
	checkRefusedStack(t, append(five, nil), nil, impl.ErrBad)
}

// checkRefused checks that a layer or a tree is refused, with zero values.
func checkRefused(t *testing.T, l []impl.Record, list []impl.Node, want int) {
	t.Helper()
	checkApply(t, l, list, nil, want)
	checkChanges(t, l, list, false, want)
}

// checkRefusedStack checks that a stack is refused with any tree, with zero values.
func checkRefusedStack(t *testing.T, layers [][]impl.Record, list []impl.Node, want int) {
	t.Helper()
	checkApplyAll(t, layers, list, nil, want)
	checkView(t, layers, nil, want)
	if impl.StackOK(layers) {
		t.Errorf("StackOK(%s) is true", showStack(layers))
	}
}

// notLayers returns lists of at most MaxList records with every fault of chapter 4.
func notLayers() [][]impl.Record {
	return [][]impl.Record{
		layer(impl.Record{}),
		layer(white("b"), white("a")),
		layer(white("a"), white("a")),
		layer(dir("a", 0), file("a", "", 0)),
		layer(file("a/b", "", 0)),
		layer(dir("a", 0), file("a/b/c", "", 0)),
		layer(file("a", "", 0), file("a/b", "", 0)),
		layer(white("a"), white("a/b")),
		layer(dir("a", 512)),
		layer(link("a", "")),
		layer(file("a", body21, 0)),
		layer(white("a/")),
		layer(white(tooLong()[0])),
		layer(impl.Record{Kind: impl.KindFile, Path: "a", Opaque: true}),
		layer(impl.Record{Kind: 5, Path: "a"}),
		whites(17),
		append(whites(16), impl.Record{}),
		make([]impl.Record, impl.MaxList),
	}
}

func notTrees() [][]impl.Node {
	return [][]impl.Node{
		{{}},
		tree(white("a")),
		tree(file("b", "", 0), file("a", "", 0)),
		tree(file("a", "", 0), file("a", "", 0)),
		tree(file("a/b", "", 0)),
		tree(link("a", "x"), file("a/b", "", 0)),
		tree(dir("a", 512)),
		tree(link("a", "")),
		tree(file("a//b", "", 0)),
		tree(file("a", tooLong()[0], 0)),
		plainFiles(25),
		make([]impl.Node, impl.MaxList),
	}
}

// ErrBad precedes ErrFull, also where the records behind the invalid one would not find room.
func TestListsThatAreNotLayersAreNotApplied(t *testing.T) {
	for _, l := range notLayers() {
		for _, list := range append(append(notTrees(), fullTrees()...), nil, base()) {
			checkRefused(t, l, list, impl.ErrBad)
			checkRefusedStack(t, stack(l), list, impl.ErrBad)
		}
		if len(l) < impl.MaxList {
			checkRefused(t, append(slices.Clone(l), filesAt("Z", 16)...), plainFiles(24), impl.ErrBad)
		}
	}
}

func TestNothingIsAppliedToListsThatAreNotTrees(t *testing.T) {
	for _, list := range notTrees() {
		for _, l := range [][]impl.Record{nil, layer(white("a")), layer(opaque("a", 0)), filesAt("Z", 16), whites(16)} {
			checkRefused(t, l, list, impl.ErrBad)
			checkApplyAll(t, stack(l), list, nil, impl.ErrBad)
			checkApplyAll(t, stack(filesAt("Y", 16), l), list, nil, impl.ErrBad)
		}
		checkApplyAll(t, nil, list, nil, impl.ErrBad)
	}
}

// One invalid layer among valid ones, also below layers that hide all it has, and with a result that would be full.
func TestStacksWithOneInvalidLayer(t *testing.T) {
	for _, l := range append(notLayers(), make([]impl.Record, impl.MaxList+1), append(whites(16), make([]impl.Record, 2*impl.MaxList)...)) {
		for n := range 5 {
			for at := range n + 1 {
				list := stack(filesAt("L", 16), filesAt("U", 16), nil, layer(white("a"), white("b")))[:n]
				list = slices.Insert(list, at, l)
				for _, start := range [][]impl.Node{nil, base(), plainFiles(24)} {
					checkRefusedStack(t, list, start, impl.ErrBad)
				}
			}
		}
	}
}

// ErrLong precedes ErrBad, whichever argument is too long; a layer inside a stack is no argument itself.
func TestLayersStacksAndTreesThatAreTooLong(t *testing.T) {
	longLayer, longTree, longStack := make([]impl.Record, impl.MaxList+1), make([]impl.Node, impl.MaxList+1), make([][]impl.Record, impl.MaxList+1)
	copy(longLayer, whites(16))
	copy(longTree, plainFiles(24))
	for _, list := range append(notTrees(), nil, base(), plainFiles(24), longTree) {
		checkRefused(t, longLayer, list, impl.ErrLong)
		checkRefusedStack(t, longStack, list, impl.ErrLong)
	}
	for _, l := range append(notLayers(), nil, whites(16), filesAt("Z", 16), longLayer) {
		checkRefused(t, l, longTree, impl.ErrLong)
		checkApplyAll(t, stack(l), longTree, nil, impl.ErrLong)
		checkApplyAll(t, slices.Repeat(stack(l), 6), longTree, nil, impl.ErrLong)
		checkRefusedStack(t, slices.Repeat(stack(l), impl.MaxList+100), base(), impl.ErrLong)
	}
	checkRefused(t, make([]impl.Record, impl.MaxList), nil, impl.ErrBad)
	checkRefused(t, nil, make([]impl.Node, impl.MaxList), impl.ErrBad)
	checkRefusedStack(t, make([][]impl.Record, impl.MaxList), nil, impl.ErrBad)
	checkRefusedStack(t, make([][]impl.Record, 6), nil, impl.ErrBad)
	checkRefusedStack(t, stack(longLayer), nil, impl.ErrBad)
}
