package tests

import (
	"fmt"
	"math"
	"math/rand"
	"slices"
	"strings"
	"testing"

	"loop.example/g00798/impl"
)

func stopsByRule(r impl.Record) bool {
	switch r.Kind {
	case 1, 2, 4:
		return true
	}
	return r.Opaque
}

func byPath(l []impl.Record) map[string]impl.Record {
	records := map[string]impl.Record{}
	for _, r := range l {
		records[r.Path] = r
	}
	return records
}

// cutsByRule goes from ancestor to ancestor, in another way than the program, which goes from record to record.
func cutsByRule(l []impl.Record, path string) bool {
	records := byPath(l)
	for up := parentByRule(path); up != ""; up = parentByRule(up) {
		if r, found := records[up]; found && stopsByRule(r) {
			return true
		}
	}
	return false
}

// squashByRule asks every path of both layers for its record, whatever their number.
func squashByRule(lower, upper []impl.Record) []impl.Record {
	below, above := byPath(lower), byPath(upper)
	var out []impl.Record
	for _, r := range upper {
		s, found := below[r.Path]
		if found && r.Kind == 3 && stopsByRule(s) {
			r.Opaque = true
		}
		out = append(out, r)
	}
	for _, r := range lower {
		if _, found := above[r.Path]; !found && !cutsByRule(upper, r.Path) {
			out = append(out, r)
		}
	}
	slices.SortFunc(out, func(a, b impl.Record) int { return strings.Compare(orderKey(a.Path), orderKey(b.Path)) })
	return canonicalByRule(out)
}

func squashAllByRule(list [][]impl.Record) []impl.Record {
	var out []impl.Record
	for _, l := range list {
		out = squashByRule(out, l)
	}
	return out
}

func hiddenByRule(lower, upper []impl.Record) []string {
	var out []string
	for _, r := range lower {
		if cutsByRule(upper, r.Path) {
			out = append(out, r.Path)
		}
	}
	return out
}

func replacedByRule(list [][]impl.Record, from, to int) ([][]impl.Record, int) {
	n := len(list)
	switch {
	case from < 0 || from > n || to < from || to > n:
		return nil, impl.ErrRange
	case n-to+from+1 > 5:
		return nil, impl.ErrMany
	}
	middle, code := limitedLayer(squashAllByRule(list[from:to]))
	if code != 0 {
		return nil, code
	}
	return slices.Concat(list[:from], stack(middle), list[to:]), 0
}

// limitedLayer returns what Squash and SquashAll return for a combination of any size.
func limitedLayer(l []impl.Record) ([]impl.Record, int) {
	if len(l) > 16 {
		return nil, impl.ErrFull
	}
	return l, 0
}

func checkSquash(t *testing.T, lower, upper, want []impl.Record, wantCode int) {
	t.Helper()
	if got, code := impl.Squash(lower, upper); !slices.Equal(got, want) || code != wantCode {
		t.Errorf("Squash(%s, %s) = %s, %d, want %s, %d", show(lower), show(upper), show(got), code, show(want), wantCode)
	}
}

func checkSquashAll(t *testing.T, list [][]impl.Record, want []impl.Record, wantCode int) {
	t.Helper()
	if got, code := impl.SquashAll(list); !slices.Equal(got, want) || code != wantCode {
		t.Errorf("SquashAll(%s) = %s, %d, want %s, %d", showStack(list), show(got), code, show(want), wantCode)
	}
}

func checkHidden(t *testing.T, lower, upper []impl.Record, want []string, wantCode int) {
	t.Helper()
	if got, code := impl.Hidden(lower, upper); !slices.Equal(got, want) || code != wantCode {
		t.Errorf("Hidden(%s, %s) = %q, %d, want %q, %d", show(lower), show(upper), got, code, want, wantCode)
	}
}

func checkCuts(t *testing.T, l []impl.Record, path string, want bool, wantCode int) {
	t.Helper()
	if got, code := impl.Cuts(l, path); got != want || code != wantCode {
		t.Errorf("Cuts(%s, %.40q) = %v, %d, want %v, %d", show(l), path, got, code, want, wantCode)
	}
}

func checkAlike(t *testing.T, a, b []impl.Record, want bool, wantCode int) {
	t.Helper()
	for _, pair := range [][2][]impl.Record{{a, b}, {b, a}} {
		if got, code := impl.Alike(pair[0], pair[1]); got != want || code != wantCode {
			t.Errorf("Alike(%s, %s) = %v, %d, want %v, %d", show(pair[0]), show(pair[1]), got, code, want, wantCode)
		}
	}
}

func checkReplaced(t *testing.T, list [][]impl.Record, from, to int, want [][]impl.Record, wantCode int) {
	t.Helper()
	if got, code := impl.Replaced(list, from, to); !slices.EqualFunc(got, want, slices.Equal) || code != wantCode {
		t.Errorf("Replaced(%s, %d, %d) = %s, %d, want %s, %d", showStack(list), from, to, showStack(got), code, showStack(want), wantCode)
	}
}

// checkPair checks everything that chapter 7 says of two layers alone.
func checkPair(t *testing.T, lower, upper []impl.Record) {
	t.Helper()
	want, code := limitedLayer(squashByRule(lower, upper))
	checkSquash(t, lower, upper, want, code)
	checkSquashAll(t, stack(lower, upper), want, code)
	checkHidden(t, lower, upper, hiddenByRule(lower, upper), 0)
	if got, _ := impl.Squash(lower, upper); !impl.IsCanonical(got) {
		t.Errorf("Squash(%s, %s) is not canonical: %s", show(lower), show(upper), show(got))
	}
}

// checkCombined is promise 8 for one tree: the combination against the one layer and then the other.
func checkCombined(t *testing.T, lower, upper, both []impl.Record, list []impl.Node) {
	t.Helper()
	want, wantCode := impl.ApplyAll(stack(lower, upper), list)
	if got, code := impl.Apply(both, list); !slices.Equal(got, want) || code != wantCode {
		t.Errorf("%s and then %s make of %s %s, %d, but their combination %s makes %s, %d",
			show(lower), show(upper), showTree(list), showTree(want), wantCode, show(both), showTree(got), code)
	}
}

// otherBodies returns the layers with other bodies and modes, so that it is seen of which of two layers a record is.
func otherBodies(layers [][]impl.Record) [][]impl.Record {
	for _, l := range layers {
		for i := range l {
			switch l[i].Kind {
			case impl.KindFile, impl.KindLink:
				l[i].Body += "!"
			case impl.KindDir:
				l[i].Mode += 256
			}
		}
	}
	return layers
}

func TestEveryPairOfLayersOfAChainCombined(t *testing.T) {
	lowers, uppers, trees := chainLayers(), otherBodies(chainLayers()), chainTrees()
	became := 0
	for _, lower := range lowers {
		for _, upper := range uppers {
			checkPair(t, lower, upper)
			both, code := impl.Squash(lower, upper)
			if code != 0 {
				t.Fatalf("Squash(%s, %s) has the code %d", show(lower), show(upper), code)
			}
			for _, list := range trees {
				checkCombined(t, lower, upper, both, list)
			}
			if len(both) > 0 && len(upper) > 0 && both[0].Opaque && !upper[0].Opaque {
				became++
			}
		}
	}
	if became < 100 {
		t.Errorf("only %d directories of this test become opaque", became)
	}
}

// besideLayers returns all layers of variants at paths that are above one another and beside one another, also with bytes before '/'.
func besideLayers() [][]impl.Record {
	var all [][]impl.Record
	everyLayer([]string{"a", "a/b", "a/c", "a!"}, nil, func(l []impl.Record) {
		if _, code := layerFaultByRule(l); code == 0 {
			all = append(all, l)
		}
	})
	return all
}

func TestPairsOfLayersBesideOneAnother(t *testing.T) {
	random := rand.New(rand.NewSource(8))
	lowers, uppers := besideLayers(), otherBodies(besideLayers())
	trees := [][]impl.Node{nil, tree(file("a", "t", 100), link("a!", "t")), tree(link("a", "t"), dir("a!", 100), file("a!/k", "t", 100)), tree(dir("a", 100), dir("a!", 100)),
		tree(dir("a", 100), file("a/b", "t", 100), dir("a/c", 100), link("a/c/k", "t"), file("a/k", "t", 100), file("a!", "t", 100)),
		tree(dir("a", 100), dir("a/b", 100), dir("a/b/k", 100), file("a/b/k/k", "t", 100), link("a/c", "t"))}
	for _, lower := range lowers {
		for range 20 {
			upper := uppers[random.Intn(len(uppers))]
			checkPair(t, lower, upper)
			both, _ := impl.Squash(lower, upper)
			for _, list := range trees {
				checkCombined(t, lower, upper, both, list)
			}
		}
	}
}

func TestSomePairsOfLayersCombined(t *testing.T) {
	random := rand.New(rand.NewSource(9))
	lowers, uppers := append(someLayers(300), nil, whites(16)), append(otherBodies(someLayers(300)), nil, whites(16))
	trees := append(append(someNodeLists(60), fullTrees()...), base(), nil)
	codes := map[int]int{}
	for i := range 2500 {
		lower, upper := lowers[random.Intn(len(lowers))], uppers[random.Intn(len(uppers))]
		checkPair(t, lower, upper)
		both, code := impl.Squash(lower, upper)
		codes[code]++
		for k := range 6 {
			if code == 0 {
				checkCombined(t, lower, upper, both, trees[(6*i+k)%len(trees)])
			}
		}
	}
	if codes[0] < 1000 || codes[impl.ErrFull] < 100 || len(codes) != 2 {
		t.Errorf("the codes of this test are %v", codes)
	}
}

// The combination has the effect also where a model without limits applies it to large trees.
func TestCombinationsOnLargeTrees(t *testing.T) {
	random := rand.New(rand.NewSource(10))
	lowers, uppers, trees := someLayers(200), otherBodies(someLayers(200)), someTrees()
	compared := 0
	for range 600 {
		lower, upper := lowers[random.Intn(200)], uppers[random.Intn(200)]
		both, code := impl.Squash(lower, upper)
		if code != 0 {
			continue
		}
		compared++
		for _, list := range trees {
			want := applyByRule(upper, applyByRule(lower, list))
			if got := applyByRule(both, list); fmt.Sprint(got) != fmt.Sprint(want) {
				t.Errorf("%s, the combination of %s and %s, makes %v, want %v", show(both), show(lower), show(upper), got, want)
			}
		}
	}
	if compared < 200 {
		t.Errorf("this test compares only %d combinations", compared)
	}
}

// stoppers returns the records at a path that stop.
func stoppers(path string) []impl.Record {
	return layer(file(path, "x", 1), link(path, "y"), opaque(path, 3), white(path))
}

func TestDirectoriesOverRecordsThatStop(t *testing.T) {
	one, two, three := dir("a", 1), dir("a/b", 2), dir("a/b/c", 3)
	for _, r := range stoppers("a") {
		checkSquash(t, layer(r), layer(dir("a", 9)), layer(opaque("a", 9)), 0)
		checkSquash(t, layer(r), layer(opaque("a", 9)), layer(opaque("a", 9)), 0)
		checkSquash(t, layer(r), layer(dir("a", 9), white("a/b"), file("a/c", "", 0)), layer(opaque("a", 9), file("a/c", "", 0)), 0)
		checkSquash(t, layer(r), layer(dir("a", 9), opaque("a/b", 8)), layer(opaque("a", 9), dir("a/b", 8)), 0)
	}
	for _, r := range stoppers("a/b") {
		checkSquash(t, layer(one, r), layer(dir("a", 9), dir("a/b", 9)), layer(dir("a", 9), opaque("a/b", 9)), 0)
		checkSquash(t, layer(one, r), layer(dir("a", 9), dir("a/b", 9), white("a/b/c")), layer(dir("a", 9), opaque("a/b", 9)), 0)
		checkSquash(t, layer(one, r), layer(opaque("a", 9), dir("a/b", 9)), layer(opaque("a", 9), dir("a/b", 9)), 0)
	}
	for _, r := range stoppers("a/b/c") {
		checkSquash(t, layer(one, two, r), layer(one, two, dir("a/b/c", 9)), layer(one, two, opaque("a/b/c", 9)), 0)
		checkSquash(t, layer(one, two, r), layer(one, two, dir("a/b/c", 9), white("a/b/c/d")), layer(one, two, opaque("a/b/c", 9)), 0)
	}
	for _, r := range stoppers("a/b/c/d") {
		checkSquash(t, layer(one, two, three, r), layer(one, two, three, dir("a/b/c/d", 9)), layer(one, two, three, dir("a/b/c/d", 9)), 0)
		checkSquash(t, layer(one, two, three, r), layer(one, two, three, opaque("a/b/c/d", 9)), layer(one, two, three, dir("a/b/c/d", 9)), 0)
	}
}

func TestDirectoriesOverRecordsThatDoNotStop(t *testing.T) {
	for _, path := range chainPaths()[:3] {
		lower, upper := dirsTo(path, 1), dirsTo(path, 9)
		checkSquash(t, lower, upper, upper, 0)
		kept := append(slices.Clone(lower), file(path+"/k", "x", 1))
		checkSquash(t, kept, upper, append(slices.Clone(upper), file(path+"/k", "x", 1)), 0)
		last := len(upper) - 1
		upper[last].Opaque = true
		checkSquash(t, lower, upper, upper, 0)
		checkSquash(t, kept, upper, upper, 0)
	}
	// Nothing is in the lower layer, or only in another place.
	checkSquash(t, nil, layer(dir("a", 9)), layer(dir("a", 9)), 0)
	checkSquash(t, layer(white("b")), layer(dir("a", 9)), layer(dir("a", 9), white("b")), 0)
	checkSquash(t, layer(dir("a", 1), white("a/b")), layer(dir("a", 9)), layer(dir("a", 9), white("a/b")), 0)
	checkSquash(t, layer(dir("a", 1), opaque("a/b", 2)), layer(dir("a", 9)), layer(dir("a", 9), opaque("a/b", 2)), 0)
	checkSquash(t, layer(white("a")), layer(dir("b", 9)), layer(white("a"), dir("b", 9)), 0)
	// The record of the upper layer is not a directory.
	for _, r := range layer(file("a", "u", 9), link("a", "u"), white("a")) {
		for _, s := range variants("a") {
			checkSquash(t, layer(s), layer(r), layer(r), 0)
		}
	}
}

// dirsTo returns the directories on the way to a path and at it.
func dirsTo(path string, mode int) []impl.Record {
	var l []impl.Record
	for up := path; up != ""; up = parentByRule(up) {
		l = append(l, dir(up, mode))
	}
	slices.Reverse(l)
	return l
}

func TestRecordsThatAreCutOff(t *testing.T) {
	one := dir("a", 1)
	lower := layer(one, file("a/!", "x", 1), dir("a/b", 2), link("a/b/c", "y"), opaque("a/b/d", 3), white("a/b/d/e"), white("a/c"), file("a!", "", 0), white("ab"))
	rest := lower[7:]
	below := []string{"a/!", "a/b", "a/b/c", "a/b/d", "a/b/d/e", "a/c"}
	for _, r := range layer(white("a"), file("a", "u", 9), link("a", "u"), opaque("a", 9)) {
		checkSquash(t, lower, layer(r), append(layer(r), rest...), 0)
		checkHidden(t, lower, layer(r), below, 0)
		checkHidden(t, layer(r), lower, nil, 0)
	}
	for _, r := range layer(white("a/b"), file("a/b", "u", 9), link("a/b", "u"), opaque("a/b", 9)) {
		want := slices.Concat(layer(dir("a", 9), lower[1], r), lower[6:])
		checkSquash(t, lower, layer(dir("a", 9), r), want, 0)
		checkHidden(t, lower, layer(dir("a", 9), r), below[2:5], 0)
	}
	for _, r := range layer(white("a/b/d"), file("a/b/d", "u", 9), link("a/b/d", "u"), opaque("a/b/d", 9)) {
		upper := layer(dir("a", 9), dir("a/b", 9), r)
		checkSquash(t, lower, upper, slices.Concat(layer(dir("a", 9), lower[1], dir("a/b", 9), lower[3], r), lower[6:]), 0)
		checkHidden(t, lower, upper, []string{"a/b/d/e"}, 0)
	}
	// Records at the same path are replaced, not cut off; directories that are not opaque cut nothing off.
	checkHidden(t, lower, layer(dir("a", 9), dir("a/b", 9), dir("a/b/d", 9)), nil, 0)
	checkHidden(t, lower, layer(file("a!", "u", 9), white("ab")), nil, 0)
	checkHidden(t, layer(one), layer(white("a")), nil, 0)
	checkHidden(t, lower, layer(opaque("a", 9), dir("a/b", 9), link("a/b/c", "u")), below, 0)
	checkHidden(t, nil, lower, nil, 0)
	checkHidden(t, lower, nil, nil, 0)
	checkHidden(t, lower, lower, []string{"a/b/d/e"}, 0)
}

func TestCutOffPaths(t *testing.T) {
	l := layer(dir("a", 0), white("a/b"), dir("a/c", 0), opaque("a/c/d", 0), file("a/c/e", "", 0), dir("a/c/f", 0), opaque("b", 0), dir("b/c", 0), file("c", "", 0), link("d", "x"), white("e"))
	for path, want := range map[string]bool{
		"a": false, "a/b": false, "a/b/x": true, "a/b/x/y": true, "a/b.": false, "a/c": false, "a/c/d": false, "a/c/d/x": true, "a/c/e": false, "a/c/e/x": true, "a/c/f": false, "a/c/f/x": false,
		"a/c/x": false, "a/x": false, "a/x/y/z": false, "b": false, "b/c": true, "b/c/d": true, "b/x": true, "b/x/y/z": true, "b.": false, "b!/c": false, "bb": false, "bb/c": false,
		"c": false, "c/x": true, "c/x/y/z": true, "d": false, "d/x": true, "e": false, "e/x": true, "e/x/y/z": true, "f": false, "f/x": false,
	} {
		checkCuts(t, l, path, want, 0)
		checkCuts(t, nil, path, false, 0)
	}
	for _, l := range append(someLayers(200), chainLayers()...) {
		for _, path := range append(poolPaths(), "b/x", "a/b/c/x", "a./x/y/z", "c/x", "c/x/y/z", "zap", "zap/zap") {
			checkCuts(t, l, path, cutsByRule(l, path), 0)
		}
	}
}

// ErrLong precedes ErrBad, and ErrBad precedes ErrName.
func TestCutsOfWhatIsNotAPath(t *testing.T) {
	for _, l := range append(someLayers(5), nil, whites(16), layer(white("a")), layer(opaque("a", 0))) {
		for _, path := range append(notPaths(), strings.Repeat("a", impl.MaxText), strings.Repeat("a/", impl.MaxText/2)) {
			checkCuts(t, l, path, false, impl.ErrName)
		}
	}
	long := make([]impl.Record, impl.MaxList+1)
	copy(long, layer(white("a")))
	for _, l := range notLayers() {
		for _, path := range append(notPaths(), "a", "a/b", "b/c", strings.Repeat("a", impl.MaxText)) {
			checkCuts(t, l, path, false, impl.ErrBad)
			checkCuts(t, long, path, false, impl.ErrLong)
		}
	}
	for _, path := range tooLong() {
		for _, l := range append(notLayers(), nil, layer(white("a")), long) {
			checkCuts(t, l, path, false, impl.ErrLong)
		}
	}
}

func TestTheEmptyLayerOnEitherSide(t *testing.T) {
	for _, empty := range [][]impl.Record{nil, {}} {
		for _, l := range append(someLayers(200), nil, layer(), whites(16), layer(opaque("a", 1), white("a/b"))) {
			form := canonicalByRule(l)
			checkSquash(t, empty, l, form, 0)
			checkSquash(t, l, empty, form, 0)
			checkSquash(t, l, l, form, 0)
			checkSquash(t, form, l, form, 0)
			checkSquashAll(t, stack(l), form, 0)
			checkSquashAll(t, stack(empty, l, empty), form, 0)
			checkSquashAll(t, stack(l, l, l, l, l), form, 0)
			checkHidden(t, empty, l, nil, 0)
			checkHidden(t, l, empty, nil, 0)
			checkAlike(t, l, empty, len(l) == 0, 0)
		}
	}
	for _, list := range [][][]impl.Record{nil, {}, stack(nil), stack(layer()), make([][]impl.Record, 5)} {
		checkSquashAll(t, list, nil, 0)
	}
}

// Sixteen records are a layer, and seventeen are too many, also where only the canonical form has sixteen.
func TestCombinationsOfSixteenAndSeventeenRecords(t *testing.T) {
	for n := range 17 {
		for k := range 17 {
			lower, upper := filesAt("L", n), filesAt("U", k)
			want, code := limitedLayer(append(slices.Clone(lower), upper...))
			if (code == 0) != (n+k <= 16) {
				t.Fatalf("the code of %d and %d records is %d", n, k, code)
			}
			checkSquash(t, lower, upper, want, code)
			checkSquashAll(t, stack(lower, upper), want, code)
			checkSquashAll(t, stack(upper, lower), want, code)
			checkSquashAll(t, stack(nil, lower, nil, upper, nil), want, code)
			if code == 0 {
				checkReplaced(t, stack(lower, upper), 0, 2, stack(want), 0)
			} else {
				checkReplaced(t, stack(lower, upper), 0, 2, nil, code)
				checkReplaced(t, stack(nil, lower, upper, nil), 1, 3, nil, code)
			}
		}
	}
	both := append(filesAt("L", 15), white("a"))
	checkSquash(t, both, layer(dir("a", 1), white("a/b"), white("a/c")), append(filesAt("L", 15), opaque("a", 1)), 0)
	checkSquash(t, both, layer(dir("a", 1), file("a/b", "", 0), white("a/c")), nil, impl.ErrFull)
	checkSquash(t, whites(16), whites(16), whites(16), 0)
	checkSquash(t, whites(16), filesAt("A", 16), filesAt("A", 16), 0)
	checkSquash(t, filesAt("A", 16), whites(16), whites(16), 0)
	checkSquash(t, whites(16), append(whites(15), white("b")), nil, impl.ErrFull)
	deep := layer(dir("d", 0))
	for i := range 15 {
		deep = append(deep, file("d/"+string([]byte{byte('a' + i)}), "", 0))
	}
	checkSquash(t, deep, append(layer(opaque("d", 1)), filesAt("e", 15)...), append(layer(opaque("d", 1)), filesAt("e", 15)...), 0)
	checkSquash(t, deep, append(layer(dir("d", 1)), filesAt("e", 15)...), nil, impl.ErrFull)
	checkHidden(t, deep, layer(white("d")), []string{"d/a", "d/b", "d/c", "d/d", "d/e", "d/f", "d/g", "d/h", "d/i", "d/j", "d/k", "d/l", "d/m", "d/n", "d/o"}, 0)
}

// inDir returns a directory and n files in it whose names begin with a letter.
func inDir(path, letter string, n int) []impl.Record {
	l := layer(dir(path, 1))
	for _, r := range filesAt(letter, n) {
		l = append(l, file(path+"/"+r.Path, r.Body, r.Mode))
	}
	return l
}

func TestMoreRecordsInBetween(t *testing.T) {
	four := stack(inDir("d", "P", 15), inDir("d", "Q", 15), inDir("d", "R", 15), inDir("d", "S", 15))
	for _, r := range stoppers("d") {
		list := append(slices.Clone(four), layer(r))
		checkSquashAll(t, list, layer(r), 0)
		checkReplaced(t, list, 0, 5, stack(layer(r)), 0)
		checkReplaced(t, list, 1, 5, stack(four[0], layer(r)), 0)
		checkReplaced(t, list, 0, 4, nil, impl.ErrFull)
		checkReplaced(t, list, 1, 3, nil, impl.ErrFull)
		full := append(layer(r), filesAt("e", 15)...)
		checkSquashAll(t, append(slices.Clone(four), full), full, 0)
		checkSquashAll(t, append(slices.Clone(four[:3]), full, layer(file("f", "", 0))), nil, impl.ErrFull)
		checkSquashAll(t, append(slices.Clone(four[:3]), layer(file("f", "", 0)), full), nil, impl.ErrFull)
	}
	checkSquashAll(t, four, nil, impl.ErrFull)
	checkSquashAll(t, append(slices.Clone(four), layer(dir("d", 2))), nil, impl.ErrFull)
	checkSquashAll(t, stack(filesAt("P", 16), filesAt("Q", 16), filesAt("R", 16), filesAt("S", 16), filesAt("T", 16)), nil, impl.ErrFull)
	seventeen := stack(inDir("d", "P", 15), inDir("d", "Q", 1))
	checkSquashAll(t, seventeen, nil, impl.ErrFull)
	checkSquashAll(t, append(seventeen, layer(dir("d", 2), white("d/Qa"))), nil, impl.ErrFull)
	checkSquashAll(t, append(seventeen, layer(opaque("d", 2), white("d/Qa"))), layer(opaque("d", 2)), 0)
	checkSquashAll(t, append(seventeen, layer(white("d")), layer(dir("d", 4), file("d/x", "", 0))), layer(opaque("d", 4), file("d/x", "", 0)), 0)
}

// wideStacks returns random stacks of 0 to 5 layers with many paths, the same ones in each run, so that combinations are often full.
func wideStacks(n int) [][][]impl.Record {
	random := rand.New(rand.NewSource(11))
	var all [][][]impl.Record
	for i := range n {
		var list [][]impl.Record
		for range i % 6 {
			list = append(list, wideLayer(random))
		}
		all = append(all, list)
	}
	return all
}

// wideLayer returns a random layer of two directories, in which there are files and whiteouts, and of a few other paths.
func wideLayer(random *rand.Rand) []impl.Record {
	var l []impl.Record
	for _, path := range []string{"a", "b"} {
		first := variants(path)[[]int{0, 2, 2, 2, 2, 2, 2, 2, 3, 4}[random.Intn(10)]]
		l = append(l, first)
		for _, part := range strings.Split("pqrstuvwxyz", "") {
			if first.Kind == impl.KindDir && len(l) < 14 && random.Intn(2) == 0 {
				l = append(l, variants(path + "/" + part)[[]int{0, 1, 4}[random.Intn(3)]])
			}
		}
	}
	for _, path := range []string{"c", "d", "e", "f"} {
		if len(l) < 16 && random.Intn(3) == 0 {
			l = append(l, variants(path)[random.Intn(5)])
		}
	}
	return l
}

func TestSomeStacksCombined(t *testing.T) {
	trees := append(append(someNodeLists(30), fullTrees()...), chainTrees()...)
	codes, between := map[int]int{}, 0
	for i, list := range append(someStacks(600), wideStacks(900)...) {
		all := squashAllByRule(list)
		want, wantCode := limitedLayer(all)
		checkSquashAll(t, list, want, wantCode)
		codes[wantCode]++
		got, code := impl.SquashAll(list)
		if code != 0 {
			continue
		}
		for n := range list {
			if len(squashAllByRule(list[:n])) > 16 {
				between++
				break
			}
		}
		if !impl.IsCanonical(got) {
			t.Errorf("SquashAll(%s) is not canonical: %s", showStack(list), show(got))
		}
		for k := range 4 {
			start := trees[(4*i+k)%len(trees)]
			want, wantCode := impl.ApplyAll(list, start)
			checkApply(t, got, start, want, wantCode)
		}
	}
	if codes[0] < 300 || codes[impl.ErrFull] < 100 || between < 50 {
		t.Errorf("the codes of this test are %v, and %d stacks have more records in between", codes, between)
	}
}

func TestReplacedLayers(t *testing.T) {
	list := stack(layer(dir("a", 1), file("a/b", "1", 0)), layer(opaque("a", 2), white("a/b")), layer(dir("a", 3), file("a/c", "3", 0)), layer(white("z")))
	second, third := layer(opaque("a", 2)), layer(opaque("a", 3), file("a/c", "3", 0))
	for _, v := range []struct {
		from, to int
		want     [][]impl.Record
	}{
		{0, 0, stack(nil, list[0], list[1], list[2], list[3])},
		{1, 1, stack(list[0], nil, list[1], list[2], list[3])},
		{4, 4, stack(list[0], list[1], list[2], list[3], nil)},
		{0, 1, list},
		{1, 2, stack(list[0], second, list[2], list[3])},
		{3, 4, list},
		{0, 2, stack(second, list[2], list[3])},
		{1, 3, stack(list[0], third, list[3])},
		{2, 4, stack(list[0], list[1], append(slices.Clone(list[2]), white("z")))},
		{0, 3, stack(third, list[3])},
		{1, 4, stack(list[0], append(slices.Clone(third), white("z")))},
		{0, 4, stack(append(slices.Clone(third), white("z")))},
	} {
		checkReplaced(t, list, v.from, v.to, v.want, 0)
	}
	checkReplaced(t, nil, 0, 0, stack(nil), 0)
	checkReplaced(t, stack(), 0, 0, stack(nil), 0)
	checkReplaced(t, make([][]impl.Record, 5), 0, 5, stack(nil), 0)
	checkReplaced(t, make([][]impl.Record, 5), 4, 5, make([][]impl.Record, 5), 0)
}

func TestSomeStacksReplacedAtEveryPlace(t *testing.T) {
	codes := map[int]int{}
	for _, list := range append(append(someStacks(60), wideStacks(150)...), nil, stack(nil), make([][]impl.Record, 4), make([][]impl.Record, 5)) {
		for from := -2; from <= 7; from++ {
			for to := -2; to <= 7; to++ {
				want, code := replacedByRule(list, from, to)
				checkReplaced(t, list, from, to, want, code)
				codes[code]++
				if code == 0 && !impl.StackOK(want) {
					t.Errorf("Replaced(%s, %d, %d) is not a stack", showStack(list), from, to)
				}
			}
		}
	}
	for _, code := range []int{0, impl.ErrRange, impl.ErrMany, impl.ErrFull} {
		if codes[code] < 10 {
			t.Errorf("the codes of this test are %v", codes)
		}
	}
}

// ErrRange precedes ErrMany and ErrFull; ErrMany is for five layers of which none is replaced.
func TestCodesOfReplaced(t *testing.T) {
	full := stack(filesAt("P", 16), filesAt("Q", 16), filesAt("R", 16), filesAt("S", 16), filesAt("T", 16))
	for n := range 6 {
		for _, list := range [][][]impl.Record{full[:n], make([][]impl.Record, n), slices.Repeat(stack(layer(white("a"))), n)} {
			for _, bad := range [][2]int{{-1, 0}, {-1, -1}, {-1, n}, {0, -1}, {0, n + 1}, {n, n + 1}, {n + 1, n + 1}, {n + 1, n}, {n + 1, 0}, {n, n - 1}, {1, 0}, {math.MinInt, 0}, {math.MinInt, math.MaxInt},
				{0, math.MaxInt}, {math.MaxInt, math.MaxInt}, {math.MaxInt, 0}, {math.MinInt, math.MinInt}, {math.MaxInt, math.MinInt}, {0, math.MinInt}, {n, math.MinInt}} {
				checkReplaced(t, list, bad[0], bad[1], nil, impl.ErrRange)
			}
			for i := range n + 1 {
				want, code := slices.Insert(slices.Clone(list), i, nil), 0
				if n == 5 {
					want, code = nil, impl.ErrMany
				}
				checkReplaced(t, list, i, i, want, code)
			}
		}
		for i := range n {
			checkReplaced(t, full[:n], i, i+1, full[:n], 0)
			if i > 0 {
				checkReplaced(t, full[:n], i-1, i+1, nil, impl.ErrFull)
			}
		}
	}
}

func TestLayersThatAreAlike(t *testing.T) {
	for _, l := range append(someLayers(150), nil, whites(16)) {
		form := canonicalByRule(l)
		checkAlike(t, l, slices.Clone(l), true, 0)
		checkAlike(t, l, form, true, 0)
	}
	for _, pair := range pairsOfOneForm() {
		checkAlike(t, pair[0], pair[1], true, 0)
	}
	for _, pair := range [][2][]impl.Record{
		{nil, layer(white("a"))},
		{layer(white("a")), layer(white("b"))},
		{layer(white("a")), layer(white("a"), white("b"))},
		{layer(dir("a", 1)), layer(dir("a", 2))},
		{layer(dir("a", 1)), layer(opaque("a", 1))},
		{layer(file("a", "", 1)), layer(file("a", "", 2))},
		{layer(file("a", "x", 1)), layer(file("a", "y", 1))},
		{layer(file("a", "x", 0)), layer(link("a", "x"))},
		{layer(file("a", "", 0)), layer(dir("a", 0))},
		{layer(link("a", "x")), layer(link("a", "y"))},
		{layer(opaque("a", 1), file("a/b", "", 0)), layer(opaque("a", 1), white("a/b"))},
		{layer(dir("a", 1), white("a/b")), layer(dir("a", 1))},
		{append(dirsTo("a/b", 1), opaque("a/b/c", 4)), append(dirsTo("a/b", 1), dir("a/b/c", 4))},
		{whites(16), whites(15)},
	} {
		checkAlike(t, pair[0], pair[1], false, 0)
	}
}

func TestLayersThatDifferInOneRecordAreAlikeOrNot(t *testing.T) {
	seen := map[bool]int{}
	for _, l := range append(someLayers(60), nil, whites(15), whites(16)) {
		for _, other := range changedLayers(l) {
			want := slices.Equal(canonicalByRule(l), canonicalByRule(other))
			checkAlike(t, l, other, want, 0)
			seen[want]++
		}
	}
	if seen[true] < 100 || seen[false] < 1000 {
		t.Errorf("the results of this test are %v", seen)
	}
}

// checkUncombined checks that every function refuses two lists of which at least one is not a layer, with zero values.
func checkUncombined(t *testing.T, a, b []impl.Record, want int) {
	t.Helper()
	for _, pair := range [][2][]impl.Record{{a, b}, {b, a}} {
		checkSquash(t, pair[0], pair[1], nil, want)
		checkHidden(t, pair[0], pair[1], nil, want)
	}
	checkAlike(t, a, b, false, want)
}

// ErrBad precedes ErrFull, and ErrLong precedes both, whichever layer it is.
func TestListsThatAreNotCombined(t *testing.T) {
	long := make([]impl.Record, impl.MaxList+1)
	copy(long, whites(16))
	for _, bad := range notLayers() {
		for _, other := range append(notLayers(), nil, whites(16), filesAt("Z", 16), layer(dir("a", 0)), layer(white("a"))) {
			checkUncombined(t, bad, other, impl.ErrBad)
		}
		checkUncombined(t, bad, long, impl.ErrLong)
	}
	for _, other := range [][]impl.Record{nil, whites(16), filesAt("Z", 16), long, make([]impl.Record, impl.MaxList), make([]impl.Record, impl.MaxList+100)} {
		checkUncombined(t, long, other, impl.ErrLong)
	}
	checkUncombined(t, make([]impl.Record, impl.MaxList), nil, impl.ErrBad)
}

// One invalid layer among valid ones is found also outside of what is replaced, and before ErrRange, ErrMany and ErrFull.
func TestStacksThatAreNotCombined(t *testing.T) {
	for _, bad := range append(notLayers(), make([]impl.Record, impl.MaxList+1), append(whites(16), make([]impl.Record, 2*impl.MaxList)...)) {
		for n := range 5 {
			for at := range n + 1 {
				list := slices.Insert(stack(filesAt("L", 16), filesAt("U", 16), nil, layer(white("a")))[:n], at, bad)
				checkSquashAll(t, list, nil, impl.ErrBad)
				for _, place := range [][2]int{{0, n + 1}, {0, 0}, {n + 1, n + 1}, {at, at + 1}, {at + 1, n + 1}, {0, at}, {-1, 0}, {n + 2, n + 3}, {1, 0}} {
					checkReplaced(t, list, place[0], place[1], nil, impl.ErrBad)
				}
			}
		}
	}
}

// A list of more than MaxList layers gives ErrLong before all else; a layer of that length inside a stack is not an argument itself.
func TestStacksThatAreTooLongAreNotCombined(t *testing.T) {
	for n, code := range map[int]int{6: impl.ErrBad, 7: impl.ErrBad, impl.MaxList: impl.ErrBad, impl.MaxList + 1: impl.ErrLong, impl.MaxList + 100: impl.ErrLong} {
		for _, l := range [][]impl.Record{nil, layer(white("a")), filesAt("Z", 16), layer(impl.Record{}), whites(17)} {
			list := slices.Repeat(stack(l), n)
			checkSquashAll(t, list, nil, code)
			for _, place := range [][2]int{{0, 0}, {0, n}, {n, n}, {0, 5}, {-1, 0}, {1, 0}, {n + 1, n + 1}, {math.MinInt, math.MaxInt}} {
				checkReplaced(t, list, place[0], place[1], nil, code)
			}
		}
	}
}
