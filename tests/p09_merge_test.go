package tests

import (
	"math/rand"
	"slices"
	"strconv"
	"strings"
	"testing"

	"loop.example/g00798/impl"
)

// pathsByRule sorts the paths of all layers, each once, in another way than the program, which passes through the layers at once.
func pathsByRule(list [][]impl.Record) []string {
	var out []string
	for _, r := range slices.Concat(list...) {
		out = append(out, r.Path)
	}
	slices.SortFunc(out, func(a, b string) int { return strings.Compare(orderKey(a), orderKey(b)) })
	return slices.Compact(out)
}

func cutDepthByRule(list [][]impl.Record, path string) int {
	depth := 0
	for i, l := range list {
		if cutsByRule(l, path) {
			depth = i + 1
		}
	}
	return depth
}

// winnerByRule goes down from the highest layer, and down again to find a record that stops.
func winnerByRule(list [][]impl.Record, path string) (impl.Record, int) {
	lowest := max(1, cutDepthByRule(list, path))
	for number := len(list); number >= lowest; number-- {
		r, found := byPath(list[number-1])[path]
		if !found {
			continue
		}
		for below := number; below >= lowest && r.Kind == 3; below-- {
			if s, found := byPath(list[below-1])[path]; found && stopsByRule(s) {
				r.Opaque = true
			}
		}
		return r, number
	}
	return impl.Record{}, 0
}

// mergeByRule returns what MergeMany returns without a limit, and what MergeTrace returns.
func mergeByRule(list [][]impl.Record) ([]impl.Record, []impl.Pick) {
	var whole []impl.Record
	var picks []impl.Pick
	for _, path := range pathsByRule(list) {
		if r, number := winnerByRule(list, path); number > 0 {
			whole = append(whole, r)
			picks = append(picks, impl.Pick{Path: path, Layer: number})
		}
	}
	return canonicalByRule(whole), picks
}

func checkMergeMany(t *testing.T, list [][]impl.Record, want []impl.Record, wantCode int) {
	t.Helper()
	if got, code := impl.MergeMany(list); !slices.Equal(got, want) || code != wantCode {
		t.Errorf("MergeMany(%s) = %s, %d, want %s, %d", showStack(list), show(got), code, show(want), wantCode)
	}
}

// checkMerged is promise 9 for one stack as it is: both readings of chapter 8, and the combination of chapter 7.
func checkMerged(t *testing.T, list [][]impl.Record) int {
	t.Helper()
	whole, _ := mergeByRule(list)
	want, code := limitedLayer(whole)
	checkMergeMany(t, list, want, code)
	checkSquashAll(t, list, want, code)
	if got, code := impl.MergeMany(list); code == 0 && !impl.IsCanonical(got) {
		t.Errorf("MergeMany(%s) is not canonical: %s", showStack(list), show(got))
	}
	return code
}

// numbered returns copies of the layers with bodies and modes that tell of which layer a record is.
func numbered(list [][]impl.Record) [][]impl.Record {
	list = copyOfStack(list)
	for number, l := range list {
		for i := range l {
			switch l[i].Kind {
			case impl.KindFile, impl.KindLink:
				l[i].Body += strconv.Itoa(number + 1)
			case impl.KindDir:
				l[i].Mode += 10 * (number + 1)
			}
		}
	}
	return list
}

// mergeStacks returns random stacks of 0 to 5 layers, in which combinations of all sizes occur.
func mergeStacks(n int) [][][]impl.Record {
	var all [][][]impl.Record
	for _, list := range append(someStacks(n), wideStacks(n)...) {
		all = append(all, numbered(list))
	}
	return all
}

type bracketing struct {
	text  string
	whole []impl.Record
	code  int
}

// bracketings combines the layers two at a time in every order, and leaves out the orders in which an intermediate result has more than 16 records.
func bracketings(list [][]impl.Record) []bracketing {
	if len(list) == 1 {
		return []bracketing{{text: "_", whole: list[0]}}
	}
	var all []bracketing
	for at := 1; at < len(list); at++ {
		uppers := bracketings(list[at:])
		for _, lower := range bracketings(list[:at]) {
			for _, upper := range uppers {
				if lower.code == 0 && upper.code == 0 {
					whole, code := impl.Squash(lower.whole, upper.whole)
					all = append(all, bracketing{"(" + lower.text + upper.text + ")", whole, code})
				}
			}
		}
	}
	return all
}

func TestStacksMergedInOnePass(t *testing.T) {
	lengths, codes := map[int]int{}, map[int]int{}
	for _, list := range mergeStacks(1200) {
		lengths[len(list)]++
		codes[checkMerged(t, list)]++
	}
	if len(lengths) != 6 || codes[0] < 300 || codes[impl.ErrFull] < 100 {
		t.Errorf("the numbers of layers in this test are %v, and the codes %v", lengths, codes)
	}
}

func TestEveryOrderOfBracketing(t *testing.T) {
	compared, codes := map[string]int{}, map[int]int{}
	for _, list := range mergeStacks(420) {
		if len(list) == 0 {
			continue
		}
		want, wantCode := impl.MergeMany(list)
		for _, b := range bracketings(list) {
			if b.text == "_" {
				b.whole = canonicalByRule(b.whole)
			}
			if !slices.Equal(b.whole, want) || b.code != wantCode {
				t.Errorf("MergeMany(%s) = %s, %d, but the order %s makes %s, %d", showStack(list), show(want), wantCode, b.text, show(b.whole), b.code)
			}
			compared[b.text]++
			codes[b.code]++
		}
	}
	for text, n := range compared {
		if n < 30 {
			t.Errorf("the order %s occurs only %d times", text, n)
		}
	}
	// There are 1, 1, 2, 5 and 14 orders for 1 to 5 layers.
	if len(compared) != 23 || codes[0] < 1000 || codes[impl.ErrFull] < 50 {
		t.Errorf("this test has %d orders, and the codes are %v", len(compared), codes)
	}
}

// Parts of a stack are replaced by their combinations, one after the other, and MergeMany returns the same.
func TestReplacedStacksMerged(t *testing.T) {
	compared := 0
	for _, list := range mergeStacks(150) {
		want, wantCode := impl.MergeMany(list)
		for from := range len(list) + 1 {
			for to := from; to <= len(list); to++ {
				if replaced, code := impl.Replaced(list, from, to); code == 0 {
					checkMergeMany(t, replaced, want, wantCode)
					compared++
				}
			}
		}
	}
	if compared < 1500 {
		t.Errorf("this test compares only %d stacks", compared)
	}
}

func TestEveryPairAndSomeTriplesOfAChainMerged(t *testing.T) {
	random := rand.New(rand.NewSource(12))
	layers := chainLayers()
	for _, lower := range layers {
		for _, upper := range layers {
			checkMerged(t, numbered(stack(lower, upper)))
			three := numbered(stack(lower, upper, layers[random.Intn(len(layers))]))
			checkMerged(t, three)
			want, _ := impl.MergeMany(three)
			for _, b := range bracketings(three) {
				if !slices.Equal(b.whole, want) || b.code != 0 {
					t.Errorf("MergeMany(%s) = %s, but the order %s makes %s, %d", showStack(three), show(want), b.text, show(b.whole), b.code)
				}
			}
		}
	}
}

func TestStacksOfLayersBesideOneAnotherMerged(t *testing.T) {
	random := rand.New(rand.NewSource(13))
	layers := besideLayers()
	for i := range 4000 {
		var list [][]impl.Record
		for range 2 + i%4 {
			list = append(list, layers[random.Intn(len(layers))])
		}
		checkMerged(t, numbered(list))
	}
}

// A merged layer has the effect of the stack on every tree.
func TestMergedLayersApplied(t *testing.T) {
	trees := append(append(someNodeLists(30), fullTrees()...), chainTrees()...)
	compared := 0
	for i, list := range mergeStacks(300) {
		merged, code := impl.MergeMany(list)
		if code != 0 {
			continue
		}
		checkView(t, stack(merged), afterAllByRule(list, nil), 0)
		for k := range 4 {
			start := trees[(4*i+k)%len(trees)]
			want, wantCode := impl.ApplyAll(list, start)
			checkApply(t, merged, start, want, wantCode)
			compared++
		}
	}
	if compared < 1000 {
		t.Errorf("this test applies only %d layers", compared)
	}
}

func TestEmptyStacksAndLayersMerged(t *testing.T) {
	for _, list := range [][][]impl.Record{nil, {}, stack(nil), stack(layer()), stack(nil, layer()), make([][]impl.Record, 5)} {
		checkMergeMany(t, list, nil, 0)
		checkTrace(t, list, nil, 0)
		checkPathsOf(t, list, nil, 0)
		for _, path := range chainPaths() {
			checkCutDepth(t, list, path, 0, 0)
			checkWinner(t, list, path, impl.Record{}, 0, impl.ErrNone)
		}
	}
	for _, l := range append(someLayers(100), whites(16), layer(opaque("a", 1), white("a/b"))) {
		for at := range 5 {
			list := make([][]impl.Record, 5)
			list[at] = l
			checkMergeMany(t, list, canonicalByRule(l), 0)
			checkMerged(t, list[:at+1])
			checkMerged(t, list[at:])
		}
	}
}

func TestEqualLayersMerged(t *testing.T) {
	for _, l := range append(append(someLayers(200), chainLayers()...), whites(16), filesAt("Z", 16)) {
		for n := 1; n <= 5; n++ {
			list := slices.Repeat(stack(l), n)
			checkMergeMany(t, list, canonicalByRule(l), 0)
			checkMerged(t, list)
		}
	}
}

// The canonical forms of layers stand for the layers, in any place of the stack.
func TestLayersThatAreNotCanonicalMerged(t *testing.T) {
	other := 0
	for _, list := range mergeStacks(240) {
		want, wantCode := impl.MergeMany(list)
		for i := range list {
			forms := slices.Clone(list)
			forms[i] = canonicalByRule(list[i])
			checkMergeMany(t, forms, want, wantCode)
			if !slices.Equal(forms[i], list[i]) {
				other++
			}
		}
	}
	if other < 200 {
		t.Errorf("only %d layers of this test are not canonical", other)
	}
	under := layer(opaque("a", 1), white("a/b"), opaque("a/c", 2), white("a/c/d"))
	checkMergeMany(t, stack(under), layer(opaque("a", 1), dir("a/c", 2)), 0)
	checkMergeMany(t, stack(layer(dir("a", 5), dir("a/b", 5)), under, layer(dir("a", 6), dir("a/b", 6), dir("a/c", 6))), layer(opaque("a", 6), dir("a/b", 6), dir("a/c", 6)), 0)
	checkMergeMany(t, stack(under, layer(white("a"))), layer(white("a")), 0)
}

func TestMergedDirectoriesOfTheGreatestDepth(t *testing.T) {
	three := dirsTo("a/b/c", 1)
	for _, r := range stoppers("a/b/c/d") {
		for _, s := range layer(dir("a/b/c/d", 9), opaque("a/b/c/d", 9)) {
			list := stack(append(slices.Clone(three), r), three, append(slices.Clone(three), s))
			checkMergeMany(t, list, append(slices.Clone(three), dir("a/b/c/d", 9)), 0)
			// The winner itself is not in canonical form.
			checkWinner(t, list, "a/b/c/d", opaque("a/b/c/d", 9), 3, 0)
		}
	}
}

// Sixteen records are a layer, and seventeen are too many, in two layers and in five; MergeTrace has no limit.
func TestSixteenAndSeventeenRecordsMerged(t *testing.T) {
	for n := range 17 {
		for k := range 17 {
			lower, upper := filesAt("L", n), filesAt("U", k)
			all := append(slices.Clone(lower), upper...)
			want, code := limitedLayer(all)
			if (code == 0) != (n+k <= 16) {
				t.Fatalf("the code of %d and %d records is %d", n, k, code)
			}
			for _, list := range [][][]impl.Record{stack(lower, upper), stack(nil, lower, nil, upper, nil)} {
				checkMergeMany(t, list, want, code)
				_, picks := mergeByRule(list)
				if len(picks) != n+k {
					t.Fatalf("%d and %d records have %d winners", n, k, len(picks))
				}
				checkTrace(t, list, picks, 0)
			}
		}
	}
	for last := 3; last <= 5; last++ {
		list := stack(filesAt("P", 3), filesAt("S", 3), filesAt("Q", 3), filesAt("T", 3), filesAt("R", last))
		want, code := limitedLayer(slices.Concat(list[0], list[2], list[4], list[1], list[3]))
		checkMergeMany(t, list, want, code)
		if (code == impl.ErrFull) != (last == 5) {
			t.Errorf("the code of %d records is %d", 12+last, code)
		}
	}
}

// The limit is one of the canonical form: a whiteout that it does not have does not count.
func TestOnlyTheCanonicalFormHasSixteenRecords(t *testing.T) {
	lower := append(filesAt("L", 15), white("a"))
	checkMergeMany(t, stack(lower, layer(dir("a", 1), white("a/b"), white("a/c"))), append(filesAt("L", 15), opaque("a", 1)), 0)
	checkMergeMany(t, stack(lower, layer(dir("a", 1), file("a/b", "", 0), white("a/c"))), nil, impl.ErrFull)
	picks := append(picksOf(filesAt("L", 15), 1), impl.Pick{Path: "a", Layer: 2}, impl.Pick{Path: "a/b", Layer: 2}, impl.Pick{Path: "a/c", Layer: 2})
	checkTrace(t, stack(lower, layer(dir("a", 1), white("a/b"), white("a/c"))), picks, 0)
}

// All 80 records of the largest stack win, or all but the highest layer is hidden.
func TestTheLargestStacksMerged(t *testing.T) {
	five := stack(filesAt("T", 16), filesAt("P", 16), filesAt("S", 16), filesAt("Q", 16), filesAt("R", 16))
	checkMergeMany(t, five, nil, impl.ErrFull)
	checkTrace(t, five, slices.Concat(picksOf(five[1], 2), picksOf(five[3], 4), picksOf(five[4], 5), picksOf(five[2], 3), picksOf(five[0], 1)), 0)
	four := stack(inDir("d", "P", 15), inDir("d", "Q", 15), inDir("d", "R", 15), inDir("d", "S", 15))
	for _, r := range stoppers("d") {
		full := append(layer(r), filesAt("e", 15)...)
		list := append(slices.Clone(four), full)
		checkMergeMany(t, list, full, 0)
		checkTrace(t, list, picksOf(full, 5), 0)
		checkMerged(t, list)
	}
	checkMergeMany(t, append(slices.Clone(four), layer(dir("d", 9))), nil, impl.ErrFull)
}

func picksOf(l []impl.Record, number int) []impl.Pick {
	var picks []impl.Pick
	for _, r := range l {
		picks = append(picks, impl.Pick{Path: r.Path, Layer: number})
	}
	return picks
}
