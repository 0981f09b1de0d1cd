package tests

import (
	"cmp"
	"slices"
	"strings"
	"testing"

	"loop.example/g00798/impl"
)

func checkPathsOf(t *testing.T, list [][]impl.Record, want []string, wantCode int) {
	t.Helper()
	if got, code := impl.PathsOf(list); !slices.Equal(got, want) || code != wantCode {
		t.Errorf("PathsOf(%s) = %q, %d, want %q, %d", showStack(list), got, code, want, wantCode)
	}
}

func checkCutDepth(t *testing.T, list [][]impl.Record, path string, want, wantCode int) {
	t.Helper()
	if got, code := impl.CutDepth(list, path); got != want || code != wantCode {
		t.Errorf("CutDepth(%s, %.40q) = %d, %d, want %d, %d", showStack(list), path, got, code, want, wantCode)
	}
}

func checkWinner(t *testing.T, list [][]impl.Record, path string, want impl.Record, wantLayer, wantCode int) {
	t.Helper()
	if got, number, code := impl.WinnerAt(list, path); got != want || number != wantLayer || code != wantCode {
		t.Errorf("WinnerAt(%s, %.40q) = %s, %d, %d, want %s, %d, %d", showStack(list), path, show(layer(got)), number, code, show(layer(want)), wantLayer, wantCode)
	}
}

func checkTrace(t *testing.T, list [][]impl.Record, want []impl.Pick, wantCode int) {
	t.Helper()
	if got, code := impl.MergeTrace(list); !slices.Equal(got, want) || code != wantCode {
		t.Errorf("MergeTrace(%s) = %v, %d, want %v, %d", showStack(list), got, code, want, wantCode)
	}
}

// checkPath compares what chapter 8 says of a path with looking through the layers one by one, and returns the winner.
func checkPath(t *testing.T, list [][]impl.Record, path string) (impl.Record, int) {
	t.Helper()
	want, number := winnerByRule(list, path)
	code := 0
	if number == 0 {
		code = impl.ErrNone
	}
	checkCutDepth(t, list, path, cutDepthByRule(list, path), 0)
	checkWinner(t, list, path, want, number, code)
	return want, number
}

// checkTraced compares MergeTrace with WinnerAt at each path of PathsOf.
func checkTraced(t *testing.T, list [][]impl.Record) {
	t.Helper()
	paths, code := impl.PathsOf(list)
	checkPathsOf(t, list, pathsByRule(list), code)
	var want []impl.Pick
	for _, path := range paths {
		if _, number, code := impl.WinnerAt(list, path); code == 0 {
			want = append(want, impl.Pick{Path: path, Layer: number})
		}
	}
	checkTrace(t, list, want, code)
	if code != 0 {
		t.Errorf("PathsOf(%s) has the code %d", showStack(list), code)
	}
}

// checkVisible is promise 10: a path is in the view exactly if it has a winner that is not a whiteout, and then it is that one.
func checkVisible(t *testing.T, list [][]impl.Record, path string) {
	t.Helper()
	view, _ := impl.ViewOf(list)
	r, _, code := impl.WinnerAt(list, path)
	at := slices.IndexFunc(view, func(n impl.Node) bool { return n.Path == path })
	visible := code == 0 && r.Kind != impl.KindWhite
	if visible != (at >= 0) || visible && view[at] != nodeOf(r) {
		t.Errorf("the winner at %s in %s is %s, %d, but the view is %s", path, showStack(list), show(layer(r)), code, showTree(view))
	}
}

// otherPaths are paths beside and below those of the stacks of these tests.
func otherPaths() []string {
	return []string{"!", "a/b/c/x", "a/b/x", "a/b/x/y", "a/x", "a/x/y/z", "a./b/x", "b/c/d/x", "b/x", "c/x", "c/x/y/z", "zap", "zap/zap"}
}

func TestWinnersOfSomeStacks(t *testing.T) {
	seen := map[string]int{}
	for _, list := range mergeStacks(400) {
		checkTraced(t, list)
		paths := pathsByRule(list)
		for _, path := range append(slices.Clone(paths), otherPaths()...) {
			r, number := checkPath(t, list, path)
			checkVisible(t, list, path)
			seen[caseOf(list, path, r, number)]++
		}
	}
	for _, name := range []string{"no record", "only cut off records", "a whiteout", "a directory that becomes opaque", "a directory over a record that is cut off", "the cutting layer", "other"} {
		if seen[name] < 50 {
			t.Errorf("the cases of this test are %v", seen)
		}
	}
}

// caseOf names what is special about a path of a stack.
func caseOf(list [][]impl.Record, path string, r impl.Record, number int) string {
	cut, has, hidden := cutDepthByRule(list, path), false, false
	for i, l := range list {
		s, found := byPath(l)[path]
		has = has || found
		hidden = hidden || found && i+1 < cut && stopsByRule(s)
	}
	switch {
	case number == 0 && has:
		return "only cut off records"
	case number == 0:
		return "no record"
	case r.Kind == impl.KindWhite:
		return "a whiteout"
	case r.Opaque && !byPath(list[number-1])[path].Opaque:
		return "a directory that becomes opaque"
	case r.Kind == impl.KindDir && !r.Opaque && hidden:
		return "a directory over a record that is cut off"
	case number == cut:
		return "the cutting layer"
	}
	return "other"
}

func TestWinnersOfEveryPairOfLayersOfAChain(t *testing.T) {
	layers := chainLayers()
	for i, lower := range layers {
		for k, upper := range layers {
			list := numbered(stack(lower, upper))
			checkTraced(t, list)
			for _, path := range append(chainPaths(), "a/x", "a/b/x", "a/b/c/x") {
				checkPath(t, list, path)
			}
			if (i+k)%5 == 0 {
				checkVisible(t, list, chainPaths()[(i+k)/5%4])
			}
		}
	}
}

func TestPathsOfStacks(t *testing.T) {
	list := stack(layer(dir("b", 1), white("b/c"), white("b!")), nil, layer(file("a", "", 0), white("b"), white("c")), layer(dir("b", 1), dir("b/!", 1), link("b/!/b", "x"), white("b/c"), white("ba")))
	checkPathsOf(t, list, []string{"a", "b", "b/!", "b/!/b", "b/c", "b!", "ba", "c"}, 0)
	checkPathsOf(t, list[:1], []string{"b", "b/c", "b!"}, 0)
	checkPathsOf(t, stack(list[2], list[0]), []string{"a", "b", "b/c", "b!", "c"}, 0)
	five := stack(filesAt("T", 16), filesAt("P", 16), filesAt("S", 16), filesAt("Q", 16), filesAt("R", 16))
	got, code := impl.PathsOf(five)
	if len(got) != 80 || code != 0 || !slices.IsSortedFunc(got, strings.Compare) {
		t.Errorf("PathsOf of 80 files = %q, %d", got, code)
	}
	for n := 1; n <= 5; n++ {
		checkPathsOf(t, slices.Repeat(stack(whites(16)), n), pathsByRule(stack(whites(16))), 0)
	}
}

// Each layer ends before the others, behind them or at the same path, and begins so.
func TestPathsOfLayersOfAllLengths(t *testing.T) {
	choices := [][]impl.Record{nil, layer(white("a")), layer(white("b"), white("d")), layer(white("a"), white("b"), white("c"), white("d")), layer(white("d"))}
	for number := range 5 * 5 * 5 * 5 * 5 {
		var list [][]impl.Record
		for range 5 {
			list = append(list, choices[number%5])
			number /= 5
		}
		checkTraced(t, list)
	}
}

func TestPathsWithoutAWinner(t *testing.T) {
	lower := layer(dir("a", 1), dir("a/b", 1), file("a/b/c", "x", 1), link("b", "y"))
	for _, path := range []string{"c", "a/c", "a/b/d", "a/b/c/d", "a!", "b/c", "b/c/d/e"} {
		checkWinner(t, stack(lower), path, impl.Record{}, 0, impl.ErrNone)
		checkWinner(t, stack(lower, lower), path, impl.Record{}, 0, impl.ErrNone)
	}
	checkCutDepth(t, stack(lower), "a/c", 0, 0)
	checkCutDepth(t, stack(lower, lower, nil), "b/c/d/e", 2, 0)
	// Only layers below the CutDepth have the path.
	for _, r := range stoppers("a") {
		for _, list := range [][][]impl.Record{stack(lower, layer(r)), stack(lower, lower, layer(r)), stack(nil, lower, layer(r), nil), stack(lower, layer(r), lower[:1])} {
			cut := cutDepthByRule(list, "a/b")
			if cut < 2 {
				t.Fatalf("nothing is cut off in %s", showStack(list))
			}
			for _, path := range []string{"a/b", "a/b/c"} {
				checkCutDepth(t, list, path, cut, 0)
				checkWinner(t, list, path, impl.Record{}, 0, impl.ErrNone)
			}
			checkCutDepth(t, list, "a", 0, 0)
			checkCutDepth(t, list, "b", 0, 0)
			checkWinner(t, list, "b", link("b", "y"), lastWith(list, "b"), 0)
		}
	}
}

// lastWith returns the number of the highest layer that has a record of a path.
func lastWith(list [][]impl.Record, path string) int {
	last := 0
	for i, l := range list {
		if hasRecord(l, path) {
			last = i + 1
		}
	}
	return last
}

func TestTheHighestLayerCutsOff(t *testing.T) {
	lower, upper := layer(dir("a", 1), dir("a/b", 1), file("a/b/c", "1", 1)), layer(dir("a", 2), dir("a/b", 2), file("a/b/c", "2", 2))
	for _, r := range stoppers("a") {
		for n := range 4 {
			list := append(stack(lower, upper, upper, lower)[:n], layer(r))
			checkCutDepth(t, list, "a", 0, 0)
			checkCutDepth(t, list, "a/b", n+1, 0)
			checkCutDepth(t, list, "a/b/c", n+1, 0)
			checkCutDepth(t, list, "a/x/y/z", n+1, 0)
			checkWinner(t, list, "a/b", impl.Record{}, 0, impl.ErrNone)
			checkWinner(t, list, "a/b/c", impl.Record{}, 0, impl.ErrNone)
			checkWinner(t, list, "a", r, n+1, 0)
			checkTrace(t, list, []impl.Pick{{Path: "a", Layer: n + 1}}, 0)
			checkMergeMany(t, list, layer(r), 0)
		}
	}
	for _, r := range stoppers("a/b") {
		list := stack(lower, upper, layer(dir("a", 3), r))
		checkCutDepth(t, list, "a/b", 0, 0)
		checkCutDepth(t, list, "a/b/c", 3, 0)
		checkWinner(t, list, "a/b/c", impl.Record{}, 0, impl.ErrNone)
		checkWinner(t, list, "a/b", r, 3, 0)
		checkMergeMany(t, list, layer(dir("a", 3), r), 0)
	}
}

// An opaque directory cuts off what lower layers have, not what its own layer and higher ones have.
func TestTheLayerThatCutsOffHasRecordsItself(t *testing.T) {
	lower := layer(dir("a", 1), dir("a/b", 1), file("a/b/c", "1", 1), file("a/d", "1", 1))
	upper := layer(opaque("a", 2), dir("a/b", 2), file("a/b/x", "2", 2), white("a/e"))
	list := stack(lower, upper)
	for path, number := range map[string]int{"a/b": 2, "a/b/c": 0, "a/b/x": 2, "a/d": 0, "a/e": 2, "a/e/f": 0} {
		checkCutDepth(t, list, path, 2, 0)
		if number > 0 {
			checkWinner(t, list, path, byPath(upper)[path], 2, 0)
		} else {
			checkWinner(t, list, path, impl.Record{}, 0, impl.ErrNone)
		}
	}
	checkMergeMany(t, list, layer(opaque("a", 2), dir("a/b", 2), file("a/b/x", "2", 2)), 0)
	checkTrace(t, list, []impl.Pick{{Path: "a", Layer: 2}, {Path: "a/b", Layer: 2}, {Path: "a/b/x", Layer: 2}, {Path: "a/e", Layer: 2}}, 0)
	// Layers above place records again, and the layer that cuts off stays the same.
	list = stack(lower, upper, layer(dir("a", 3), file("a/d", "3", 3)))
	checkCutDepth(t, list, "a/d", 2, 0)
	checkWinner(t, list, "a/d", file("a/d", "3", 3), 3, 0)
	checkWinner(t, list, "a/b/x", file("a/b/x", "2", 2), 2, 0)
	checkWinner(t, list, "a", opaque("a", 3), 3, 0)
	checkMergeMany(t, list, layer(opaque("a", 3), dir("a/b", 2), file("a/b/x", "2", 2), file("a/d", "3", 3)), 0)
	// Of several layers that cut off, the highest one counts.
	list = stack(upper, lower, upper, lower, layer(opaque("a", 9)))
	checkCutDepth(t, list[:4], "a/b", 3, 0)
	checkWinner(t, list[:4], "a/b", dir("a/b", 1), 4, 0)
	checkWinner(t, list[:4], "a/e", white("a/e"), 3, 0)
	checkCutDepth(t, list, "a/b", 5, 0)
	checkWinner(t, list, "a/b", impl.Record{}, 0, impl.ErrNone)
}

func TestDirectoriesReturnedAsOpaque(t *testing.T) {
	one, nine := dir("a", 1), dir("a", 9)
	for _, r := range stoppers("a") {
		checkWinner(t, stack(layer(r), layer(nine)), "a", opaque("a", 9), 2, 0)
		checkWinner(t, stack(layer(one), layer(r), layer(one), nil, layer(nine)), "a", opaque("a", 9), 5, 0)
		checkWinner(t, stack(layer(r), layer(opaque("a", 9))), "a", opaque("a", 9), 2, 0)
		checkWinner(t, stack(layer(nine), layer(r)), "a", r, 2, 0)
		checkWinner(t, stack(layer(nine), layer(white("b"), white("c"))), "a", nine, 1, 0)
		checkMergeMany(t, stack(layer(r), layer(one), layer(nine)), layer(opaque("a", 9)), 0)
	}
	// A file or a whiteout is never opaque, whatever is below it.
	checkWinner(t, stack(layer(opaque("a", 1)), layer(file("a", "x", 9))), "a", file("a", "x", 9), 2, 0)
	checkWinner(t, stack(layer(opaque("a", 1)), layer(white("a"))), "a", white("a"), 2, 0)
	checkWinner(t, stack(layer(one), layer(nine)), "a", nine, 2, 0)
	checkWinner(t, stack(layer(one), nil, layer(nine), nil), "a", nine, 3, 0)
}

// A record that stops makes a directory opaque only if its layer is considered.
func TestDirectoriesOverRecordsThatAreNotConsidered(t *testing.T) {
	one := dir("a", 1)
	for _, r := range stoppers("a/b") {
		for _, cut := range layer(white("a"), file("a", "x", 1), link("a", "x"), opaque("a", 2)) {
			list := stack(layer(one, r), layer(cut), layer(dir("a", 3), dir("a/b", 9)))
			checkCutDepth(t, list, "a/b", 2, 0)
			checkWinner(t, list, "a/b", dir("a/b", 9), 3, 0)
			checkMergeMany(t, list, layer(opaque("a", 3), dir("a/b", 9)), 0)
		}
		list := stack(layer(one, r), layer(opaque("a", 3), dir("a/b", 9)))
		checkWinner(t, list, "a/b", dir("a/b", 9), 2, 0)
		// The layer that cuts off is considered itself, and so are those above it.
		list = stack(nil, layer(opaque("a", 2), r), layer(dir("a", 3), dir("a/b", 9)))
		checkCutDepth(t, list, "a/b", 2, 0)
		checkWinner(t, list, "a/b", opaque("a/b", 9), 3, 0)
		checkMergeMany(t, list, layer(opaque("a", 3), dir("a/b", 9)), 0)
		list = stack(layer(opaque("a", 2)), layer(one, r), layer(dir("a", 3), dir("a/b", 9)))
		checkCutDepth(t, list, "a/b", 1, 0)
		checkWinner(t, list, "a/b", opaque("a/b", 9), 3, 0)
		// A record above the winner's layer does not exist, and one at another path does not count.
		list = stack(layer(one, dir("a/b", 9)), layer(one, white("a/b!")))
		checkWinner(t, list, "a/b", dir("a/b", 9), 1, 0)
	}
}

func TestWhiteoutsThatWin(t *testing.T) {
	for _, path := range chainPaths() {
		above := dirsTo(path, 1)[:strings.Count(path, "/")]
		gone := append(slices.Clone(above), white(path))
		for _, r := range variants(path) {
			list := stack(append(slices.Clone(above), r), gone, above)
			checkWinner(t, list, path, white(path), 2, 0)
			checkMergeMany(t, list, gone, 0)
			checkTrace(t, list, append(picksOf(above, 3), impl.Pick{Path: path, Layer: 2}), 0)
		}
		checkWinner(t, stack(gone), path, white(path), 1, 0)
		checkMergeMany(t, stack(nil, gone, nil), gone, 0)
		checkCutDepth(t, stack(nil, gone, nil), path, 0, 0)
	}
	// Under an opaque directory it wins, too, but the merged layer does not have it.
	list := stack(layer(opaque("a", 1)), layer(dir("a", 2), white("a/b")))
	checkWinner(t, list, "a/b", white("a/b"), 2, 0)
	checkTrace(t, list, []impl.Pick{{Path: "a", Layer: 2}, {Path: "a/b", Layer: 2}}, 0)
	checkMergeMany(t, list, layer(opaque("a", 2)), 0)
}

func TestWinnersOfEqualLayers(t *testing.T) {
	for _, l := range append(someLayers(60), chainLayers()...) {
		for n := 1; n <= 5; n++ {
			list := slices.Repeat(stack(l), n)
			checkTraced(t, list)
			for _, r := range l {
				checkWinner(t, list, r.Path, r, n, 0)
			}
			checkTrace(t, list, picksOf(l, n), 0)
		}
	}
}

// checkUnmerged checks that every function refuses a stack or a path, with zero values.
func checkUnmerged(t *testing.T, list [][]impl.Record, path string, stackCode, pathCode int) {
	t.Helper()
	if stackCode != 0 {
		checkPathsOf(t, list, nil, stackCode)
		checkMergeMany(t, list, nil, stackCode)
		checkTrace(t, list, nil, stackCode)
	}
	checkCutDepth(t, list, path, 0, pathCode)
	checkWinner(t, list, path, impl.Record{}, 0, pathCode)
}

// pathsAndOthers returns strings of at most MaxText bytes, of which only the first two are paths.
func pathsAndOthers() []string {
	return append([]string{"a", "a/b"}, append(notPaths(), strings.Repeat("a", impl.MaxText), strings.Repeat("a/", impl.MaxText/2))...)
}

// ErrBad precedes ErrName, and ErrFull, whichever layer is invalid and whatever the other ones hide.
func TestStacksThatAreNotMerged(t *testing.T) {
	for _, bad := range append(notLayers(), make([]impl.Record, impl.MaxList+1), append(whites(16), make([]impl.Record, 2*impl.MaxList)...)) {
		for n := range 5 {
			for at := range n + 1 {
				list := slices.Insert(stack(filesAt("L", 16), filesAt("U", 16), nil, layer(white("a"), white("b")))[:n], at, bad)
				for _, path := range pathsAndOthers() {
					checkCutDepth(t, list, path, 0, impl.ErrBad)
					checkWinner(t, list, path, impl.Record{}, 0, impl.ErrBad)
				}
				checkUnmerged(t, list, "La", impl.ErrBad, impl.ErrBad)
			}
		}
	}
}

// Six layers are no stack; a list of more than MaxList layers gives ErrLong before all else.
func TestStacksOfSixAndMoreLayersAreNotMerged(t *testing.T) {
	for n, code := range map[int]int{5: 0, 6: impl.ErrBad, 7: impl.ErrBad, impl.MaxList: impl.ErrBad, impl.MaxList + 1: impl.ErrLong, impl.MaxList + 100: impl.ErrLong} {
		for _, l := range [][]impl.Record{nil, layer(white("a")), filesAt("Z", 16)} {
			list := slices.Repeat(stack(l), n)
			for _, path := range pathsAndOthers()[2:] {
				checkUnmerged(t, list, path, code, cmp.Or(code, impl.ErrName))
			}
			if code == 0 {
				checkTraced(t, list)
			}
		}
		invalid := cmp.Or(code, impl.ErrBad)
		checkUnmerged(t, slices.Repeat(stack(whites(17)), n), "a", invalid, invalid)
	}
}

func TestTextsThatAreNotPathsHaveNoWinner(t *testing.T) {
	for _, list := range append(someStacks(12), nil, stack(nil), stack(layer(white("a"))), stack(layer(opaque("a", 1), white("a/b"))), slices.Repeat(stack(filesAt("Z", 16)), 5)) {
		for _, path := range pathsAndOthers()[2:] {
			checkUnmerged(t, list, path, 0, impl.ErrName)
		}
	}
}

// ErrLong for the path precedes ErrBad for the stack, and that for the stack precedes ErrName for the path.
func TestPathsThatAreTooLongHaveNoWinner(t *testing.T) {
	long := make([][]impl.Record, impl.MaxList+1)
	for i, path := range append(tooLong(), pathsAndOthers()...) {
		checkUnmerged(t, long, path, impl.ErrLong, impl.ErrLong)
		if i >= len(tooLong()) {
			continue
		}
		for _, list := range [][][]impl.Record{nil, stack(layer(white("a"))), slices.Repeat(stack(filesAt("Z", 16)), 5)} {
			checkUnmerged(t, list, path, 0, impl.ErrLong)
		}
		for _, bad := range notLayers() {
			checkUnmerged(t, stack(bad), path, impl.ErrBad, impl.ErrLong)
		}
		checkUnmerged(t, make([][]impl.Record, 6), path, impl.ErrBad, impl.ErrLong)
	}
}

// Paths consist of parts with the first and the last byte that a part may have, and of dots.
func TestWinnersAtUnlikelyPaths(t *testing.T) {
	list := stack(layer(dir("~", 1), opaque("~/!", 1), white("~/...")), layer(dir("...", 1)), layer(dir("~", 2), dir("~/...", 3), link("~/.../~", "~"), white("~~")))
	checkPathsOf(t, list, []string{"...", "~", "~/!", "~/...", "~/.../~", "~~"}, 0)
	checkWinner(t, list, "~/...", opaque("~/...", 3), 3, 0)
	checkWinner(t, list, "~/!", opaque("~/!", 1), 1, 0)
	checkWinner(t, list, "~~", white("~~"), 3, 0)
	checkTrace(t, list, []impl.Pick{{Path: "...", Layer: 2}, {Path: "~", Layer: 3}, {Path: "~/!", Layer: 1}, {Path: "~/...", Layer: 3}, {Path: "~/.../~", Layer: 3}, {Path: "~~", Layer: 3}}, 0)
	for _, path := range paths() {
		checkPath(t, list, path)
		checkVisible(t, list, path)
	}
}
