package tests

import (
	"math"
	"slices"
	"strings"
	"testing"
	"unsafe"

	"loop.example/g00798/impl"
)

var codeTable = []struct {
	number, constant int
	word             string
}{
	{0, impl.OK, "ok"},
	{1, impl.ErrBad, "bad"},
	{2, impl.ErrLong, "long"},
	{3, impl.ErrForm, "form"},
	{4, impl.ErrRange, "range"},
	{5, impl.ErrNone, "none"},
	{6, impl.ErrMany, "many"},
	{7, impl.ErrFull, "full"},
	{8, impl.ErrSize, "size"},
	{9, impl.ErrKind, "kind"},
	{10, impl.ErrName, "name"},
	{11, impl.ErrOrder, "order"},
	{12, impl.ErrOrphan, "orphan"},
	{13, impl.ErrNotDir, "notdir"},
	{14, impl.ErrIsDir, "isdir"},
	{15, impl.ErrSum, "sum"},
	{16, impl.ErrFault, "fault"},
	{17, impl.ErrState, "state"},
	{18, impl.ErrSame, "same"},
}

func TestLimits(t *testing.T) {
	if impl.MaxText != 65536 || impl.MaxList != 4096 || impl.MaxName != 12 || impl.MaxPart != 8 || impl.MaxDepth != 4 {
		t.Error("a constant differs from the document")
	}
}

func TestCodesAndWords(t *testing.T) {
	for _, row := range codeTable {
		if row.constant != row.number {
			t.Errorf("the constant of %s is %d, want %d", row.word, row.constant, row.number)
		}
		if got := impl.CodeWord(row.number); got != row.word {
			t.Errorf("CodeWord(%d) = %q, want %q", row.number, got, row.word)
		}
		if got := impl.CodeOf(row.word); got != row.number {
			t.Errorf("CodeOf(%q) = %d, want %d", row.word, got, row.number)
		}
	}
}

func TestCodesThatAreNotInTheTable(t *testing.T) {
	for _, code := range []int{-1, -2, -18, 19, 20, 256, 1 << 32, math.MinInt, math.MaxInt} {
		if got := impl.CodeWord(code); got != "" {
			t.Errorf("CodeWord(%d) = %q, want none", code, got)
		}
	}
}

func TestWordsThatAreNotInTheTable(t *testing.T) {
	words := []string{"", "x", "OK", "Ok", "o", "okk", "ok ", " ok", "ok\x00", "0", "-1", "notDir", "not dir", "\xff"}
	words = append(words, tooLong()...)
	words = append(words, "ok"+strings.Repeat(" ", impl.MaxText), strings.Repeat("x", impl.MaxText))
	for _, word := range words {
		if got := impl.CodeOf(word); got != -1 {
			t.Errorf("CodeOf(%.20q), of %d bytes, = %d, want -1", word, len(word), got)
		}
	}
}

func TestNames(t *testing.T) {
	for _, name := range []string{"a", "z", "A", "Z", "_", "a0", "a9", "_a9", "__", "L1", "MANIFEST", "abcdefghijkl", "_23456789012"} {
		if !impl.NameOK(name) {
			t.Errorf("NameOK(%q) is false", name)
		}
	}
	bad := []string{"", "0", "9a", "a b", " a", "a ", "a-b", "a.b", "a/b", "abcdefghijklm", "_234567890123", "a\x00", "é", "aé", "a\u212a", "a\xff", "a\n"}
	for _, name := range append(bad, tooLong()...) {
		if impl.NameOK(name) {
			t.Errorf("NameOK(%.20q), of %d bytes, is true", name, len(name))
		}
	}
}

func TestEveryByteOfAName(t *testing.T) {
	const letters = "abcdefghijklmnopqrstuvwxyzABCDEFGHIJKLMNOPQRSTUVWXYZ_"
	for b := range 256 {
		c := string([]byte{byte(b)})
		first := strings.Contains(letters, c)
		later := strings.Contains(letters+"0123456789", c)
		if impl.NameOK(c) != first || impl.NameOK(c+"a") != first {
			t.Errorf("NameOK is not %v for a name that begins with the byte %d", first, b)
		}
		if impl.NameOK("a"+c) != later || impl.NameOK("a"+c+"a") != later {
			t.Errorf("NameOK is not %v for a name with the byte %d in it", later, b)
		}
	}
}

func TestStringsThatAreTooLong(t *testing.T) {
	for i, long := range tooLong() {
		if parts, code := impl.PartsOf(long); len(parts) != 0 || code != impl.ErrLong {
			t.Errorf("%d: PartsOf returns %d parts and %d", i, len(parts), code)
		}
		if parent, code := impl.ParentOf(long); parent != "" || code != impl.ErrLong {
			t.Errorf("%d: ParentOf returns %.20q and %d", i, parent, code)
		}
		if impl.PartOK(long) || impl.PathOK(long) {
			t.Errorf("%d: PartOK or PathOK accepts it", i)
		}
		for _, other := range []string{"", "a", "b/c", "a//", long} {
			if impl.PathLess(long, other) || impl.PathLess(other, long) || impl.IsBelow(long, other) || impl.IsBelow(other, long) {
				t.Errorf("%d: PathLess or IsBelow accepts it beside %.20q", i, other)
			}
		}
	}
}

// ErrLong precedes ErrName and ErrMany, whichever of the two arguments is too long.
func TestJoinPathOfStringsThatAreTooLong(t *testing.T) {
	for i, long := range tooLong() {
		for _, other := range []string{"", "a", ".", "a//b", "a/b/c/d", long} {
			if path, code := impl.JoinPath(long, other); path != "" || code != impl.ErrLong {
				t.Errorf("%d: JoinPath(long, %.20q) = %.20q, %d", i, other, path, code)
			}
			if path, code := impl.JoinPath(other, long); path != "" || code != impl.ErrLong {
				t.Errorf("%d: JoinPath(%.20q, long) = %.20q, %d", i, other, path, code)
			}
		}
	}
}

func TestStringsOfMaxTextBytesAreNotTooLong(t *testing.T) {
	for _, full := range []string{strings.Repeat("a", impl.MaxText), strings.Repeat("a/", impl.MaxText/2)} {
		_, parts := impl.PartsOf(full)
		_, parent := impl.ParentOf(full)
		_, dir := impl.JoinPath(full, "a")
		_, part := impl.JoinPath("a", full)
		if codes := []int{parts, parent, dir, part}; !slices.Equal(codes, []int{impl.ErrName, impl.ErrName, impl.ErrName, impl.ErrName}) {
			t.Errorf("the codes for %d bytes are %v, want ErrName", len(full), codes)
		}
	}
}

// allResults calls every function of chapters 1 and 2 for one pair of strings.
func allResults(t *testing.T, a, b string) string {
	t.Helper()
	return resultOf(t, "a function of chapter 1 or 2", func() []any {
		parts, partsCode := impl.PartsOf(a)
		parent, parentCode := impl.ParentOf(a)
		joined, joinCode := impl.JoinPath(a, b)
		word := impl.CodeWord(len(a) - 1)
		return []any{
			impl.NameOK(a), word, impl.CodeOf(a), impl.CodeOf(word), impl.PartOK(a), impl.PathOK(a),
			parts, partsCode, parent, parentCode, impl.PathLess(a, b), impl.IsBelow(a, b), joined, joinCode,
		}
	})
}

// Calls in another order, after other calls, give the same results.
func TestEqualArgumentsYieldEqualResults(t *testing.T) {
	args := []string{"", "a", "ok", "same", ".", "..", "...", "/", "a/", "/a", "a//b", "a/b", "a.b", "a/b/c/d", "a/b/c/d/e",
		"a b", "\x00", "\x7f", "\x80", "\xff", "é", "longname", "longname1", "a/..", "_9", "twelvebytes_", strings.Repeat("a", impl.MaxText)}
	args = append(args, tooLong()[:2]...)
	first := map[[2]int]string{}
	for i, a := range args {
		for k, b := range args {
			first[[2]int{i, k}] = allResults(t, a, b)
		}
	}
	for k := len(args) - 1; k >= 0; k-- {
		for i := len(args) - 1; i >= 0; i-- {
			if got := allResults(t, args[i], args[k]); got != first[[2]int{i, k}] {
				t.Errorf("the results for %.20q and %.20q change from call to call", args[i], args[k])
			}
		}
	}
}

// A caller that overwrites or extends a result changes neither the argument nor a later result.
func TestResultsAreNew(t *testing.T) {
	arg := "a/b/c"
	one, _ := impl.PartsOf(arg)
	two, _ := impl.PartsOf(arg)
	for i := range one {
		one[i] = "x"
	}
	_ = append(one, "y")
	three, _ := impl.PartsOf(arg)
	want := []string{"a", "b", "c"}
	if arg != "a/b/c" || !slices.Equal(two, want) || !slices.Equal(three, want) {
		t.Error("results of PartsOf share memory", arg, two, three)
	}
}

// recordResults calls every function of chapter 3 with the fields of one record, and checks that the record is left as it was.
func recordResults(t *testing.T, r impl.Record) string {
	t.Helper()
	before := r
	result := resultOf(t, "a function of chapter 3", func() []any {
		file, fileCode := impl.MakeFile(r.Path, r.Body, r.Mode)
		dir, dirCode := impl.MakeDir(r.Path, r.Mode, r.Opaque)
		white, whiteCode := impl.MakeWhite(r.Path)
		link, linkCode := impl.MakeLink(r.Path, r.Body)
		return []any{
			impl.RecordFault(r), impl.RecordOK(r),
			file, fileCode, dir, dirCode, white, whiteCode, link, linkCode,
		}
	})
	if r != before {
		t.Errorf("a function of chapter 3 changes its argument %.200q", []any{before})
	}
	return result
}

func TestEqualRecordsYieldEqualResults(t *testing.T) {
	var records []impl.Record
	long := tooLong()[0]
	for _, kind := range []int{math.MinInt, -1, 0, 1, 2, 3, 4, 5, math.MaxInt} {
		for _, path := range []string{"", "a", "a/b/c/d", "a//b", long} {
			for _, body := range []string{"", "x", "\xff", body20, body21, long} {
				for _, mode := range []int{math.MinInt, -1, 0, 511, 512, math.MaxInt} {
					records = append(records, impl.Record{Kind: kind, Path: path, Body: body, Mode: mode, Opaque: mode%2 != 0})
				}
			}
		}
	}
	first := make([]string, len(records))
	for i, r := range records {
		first[i] = recordResults(t, r)
	}
	for i := len(records) - 1; i >= 0; i-- {
		if recordResults(t, records[i]) != first[i] {
			t.Errorf("the results for %.200q change from call to call", []any{records[i]})
		}
	}
}

// layerResults calls every function of chapter 4, and checks that the layers and the unused capacity behind them are left as they were.
func layerResults(t *testing.T, a, b []impl.Record, path string) string {
	t.Helper()
	a, b = withSpare(a), withSpare(b)
	wholeA, wholeB := slices.Clone(a[:cap(a)]), slices.Clone(b[:cap(b)])
	result := resultOf(t, "a function of chapter 4", func() []any {
		index, code := impl.LayerFault(a)
		r, findCode := impl.FindRecord(a, path)
		under, underCode := impl.UnderOpaque(a, path)
		form, formCode := impl.Canonical(a)
		return []any{
			index, code, impl.LayerOK(a), impl.SameLayer(a, b), r, findCode, under, underCode, slices.Clip(form), formCode, impl.IsCanonical(a),
		}
	})
	if !slices.Equal(a[:cap(a)], wholeA) || !slices.Equal(b[:cap(b)], wholeB) {
		t.Errorf("a function of chapter 4 changes an argument of %d or %d records", len(a), len(b))
	}
	return result
}

// withSpare returns the records with unused capacity behind them, in which there are other records.
func withSpare(l []impl.Record) []impl.Record {
	spare := append(slices.Clone(l), white("spare"), opaque("spare", 1), white("spare"))
	return spare[:len(l)]
}

func TestEqualLayersYieldEqualResults(t *testing.T) {
	layers := append(someLayers(40), nil, layer(), whites(16), whites(17), layer(impl.Record{}), layer(white("b"), white("a")), layer(white("a"), white("a")),
		layer(white("a/b")), layer(white("a"), white("a/b")), layer(white(tooLong()[0])), make([]impl.Record, impl.MaxList), make([]impl.Record, impl.MaxList+1))
	paths := []string{"", "a", "a/b", "a/b/c/d", "a/b/x/y", "b/w", "spare", "zap", "a//b", "a/b/c/d/e", tooLong()[0]}
	first := map[[3]int]string{}
	for i, a := range layers {
		for k, b := range [][]impl.Record{a, layers[(i+1)%len(layers)]} {
			for j, path := range paths {
				first[[3]int{i, k, j}] = layerResults(t, a, b, path)
			}
		}
	}
	for i := len(layers) - 1; i >= 0; i-- {
		for k, b := range [][]impl.Record{layers[i], layers[(i+1)%len(layers)]} {
			for j := len(paths) - 1; j >= 0; j-- {
				if layerResults(t, layers[i], b, paths[j]) != first[[3]int{i, k, j}] {
					t.Errorf("the results for layer %d and %.20q change from call to call", i, paths[j])
				}
			}
		}
	}
}

// A caller that overwrites or extends a canonical form changes neither the layer nor a later result, and the reverse.
func TestCanonicalFormsAreNew(t *testing.T) {
	for _, arg := range append(someLayers(40), nil, whites(16)) {
		l := withSpare(arg)
		want, _ := impl.Canonical(arg)
		one, _ := impl.Canonical(l)
		two, _ := impl.Canonical(l)
		for i := range one {
			one[i] = impl.Record{}
		}
		clear(one[:cap(one)])
		_ = append(one, white("x"))
		if !slices.Equal(l, arg) || !slices.Equal(two, want) {
			t.Errorf("a result of Canonical(%s) shares memory with its argument or another result", show(arg))
		}
		if behind := l[len(l) : len(l)+3]; behind[0].Path != "spare" || behind[1].Path != "spare" || behind[2].Path != "spare" {
			t.Errorf("a result of Canonical(%s) uses the unused capacity of its argument", show(arg))
		}
		clear(l[:cap(l)])
		if !slices.Equal(two, want) {
			t.Errorf("a result of Canonical(%s) changes with its argument", show(arg))
		}
	}
}

// treeResults calls every function of chapter 5, and checks that the trees and the unused capacity behind them are left as they were.
func treeResults(t *testing.T, a, b []impl.Node, n impl.Node) string {
	t.Helper()
	a, b = withSpareNodes(a), withSpareNodes(b)
	wholeA, wholeB := slices.Clone(a[:cap(a)]), slices.Clone(b[:cap(b)])
	result := resultOf(t, "a function of chapter 5", func() []any {
		found, findCode := impl.FindNode(a, n.Path)
		parts, listCode := impl.ListDir(a, n.Path)
		more, addCode := impl.AddNode(a, n)
		rest, removeCode := impl.RemoveNode(a, n.Path)
		l, layerCode := impl.LayerOfTree(a)
		return []any{
			impl.TreeOK(a), impl.SameTree(a, b), found, findCode, slices.Clip(parts), listCode, slices.Clip(more), addCode, slices.Clip(rest), removeCode, slices.Clip(l), layerCode,
		}
	})
	if !slices.Equal(a[:cap(a)], wholeA) || !slices.Equal(b[:cap(b)], wholeB) {
		t.Errorf("a function of chapter 5 changes an argument of %d or %d nodes", len(a), len(b))
	}
	return result
}

// withSpareNodes returns the nodes with unused capacity behind them, in which there are other nodes.
func withSpareNodes(list []impl.Node) []impl.Node {
	spare := append(slices.Clone(list), tree(file("spare", "x", 1), dir("spare", 2), white("spare"))...)
	return spare[:len(list)]
}

func TestEqualTreesYieldEqualResults(t *testing.T) {
	trees := append(someNodeLists(30), nil, tree(), plainFiles(16), plainFiles(17), plainFiles(24), plainFiles(25), []impl.Node{{}}, tree(white("a")), tree(file("b", "", 0), file("a", "", 0)),
		tree(file("a", "", 0), file("a", "", 0)), tree(file("a/b", "", 0)), tree(file("a", "", 0), file("a/b", "", 0)), tree(file(tooLong()[0], "", 0)),
		make([]impl.Node, impl.MaxList), make([]impl.Node, impl.MaxList+1))
	var nodes []impl.Node
	for _, path := range []string{"", "a", "a/b", "a/b/c/d", "a/b/x/y", "b/w", "spare", "zap", "a//b", "a/b/c/d/e", tooLong()[0]} {
		nodes = append(nodes, tree(file(path, "x", 1), dir(path, 512), white(path))...)
	}
	first := map[[3]int]string{}
	for i, a := range trees {
		for k, b := range [][]impl.Node{a, trees[(i+1)%len(trees)]} {
			for j, n := range nodes {
				first[[3]int{i, k, j}] = treeResults(t, a, b, n)
			}
		}
	}
	for i := len(trees) - 1; i >= 0; i-- {
		for k, b := range [][]impl.Node{trees[i], trees[(i+1)%len(trees)]} {
			for j := len(nodes) - 1; j >= 0; j-- {
				if treeResults(t, trees[i], b, nodes[j]) != first[[3]int{i, k, j}] {
					t.Errorf("the results for tree %d and %.20q change from call to call", i, nodes[j].Path)
				}
			}
		}
	}
}

// checkNew checks that a result changes neither with the argument nor with another result, also where the code says that the tree is unchanged.
func checkNew(t *testing.T, arg []impl.Node, name string, call func([]impl.Node) []impl.Node) {
	t.Helper()
	list := withSpareNodes(arg)
	before := slices.Clone(list[:cap(list)])
	want := call(slices.Clone(arg))
	one, two := call(list), call(list)
	clear(one[:cap(one)])
	_ = append(one, impl.Node{Path: "x"})
	if !slices.Equal(list[:cap(list)], before) || !slices.Equal(two, want) {
		t.Errorf("a result of %s for %s shares memory with its argument or another result", name, showTree(arg))
	}
	clear(list[:cap(list)])
	if !slices.Equal(two, want) {
		t.Errorf("a result of %s for %s changes with its argument", name, showTree(arg))
	}
}

func TestTreesAreNew(t *testing.T) {
	for _, arg := range append(someNodeLists(40), nil, plainFiles(1), plainFiles(16), plainFiles(24)) {
		for _, path := range []string{"", "Aa", "a", "a/b", "a/b/c", "a/!", "b", "b/w", "zap", "zap/zap"} {
			checkNew(t, arg, "AddNode", func(list []impl.Node) []impl.Node {
				more, _ := impl.AddNode(list, nodeOf(file(path, "x", 1)))
				return more
			})
			checkNew(t, arg, "RemoveNode", func(list []impl.Node) []impl.Node {
				rest, _ := impl.RemoveNode(list, path)
				return rest
			})
		}
	}
}

// Listed parts and records of a tree belong to the caller.
func TestListsAndLayersOfTreesAreNew(t *testing.T) {
	for _, arg := range append(someNodeLists(40), nil, plainFiles(16)) {
		parts, _ := impl.ListDir(arg, "")
		again, _ := impl.ListDir(arg, "")
		l, _ := impl.LayerOfTree(arg)
		other, _ := impl.LayerOfTree(arg)
		before, parts2, l2 := slices.Clone(arg), slices.Clone(again), slices.Clone(other)
		clear(parts[:cap(parts)])
		clear(l[:cap(l)])
		if !slices.Equal(arg, before) || !slices.Equal(again, parts2) || !slices.Equal(other, l2) {
			t.Errorf("a result of ListDir or LayerOfTree for %s shares memory", showTree(arg))
		}
	}
}

// withSpareStack returns the stack with unused capacity behind it and behind each of its layers.
func withSpareStack(list [][]impl.Record) [][]impl.Record {
	var spare [][]impl.Record
	for _, l := range list {
		spare = append(spare, withSpare(l))
	}
	spare = append(spare, layer(white("spare")), nil, layer(white("spare")))
	return spare[:len(list)]
}

// wholeStack copies a stack with all its unused capacity, and notes the length of each layer behind it.
func wholeStack(list [][]impl.Record) [][]impl.Record {
	var whole [][]impl.Record
	for _, l := range list[:cap(list)] {
		whole = append(whole, append(slices.Clone(l[:cap(l)]), impl.Record{Mode: len(l)}))
	}
	return whole
}

// applyResults calls every function of chapter 6, and checks that the arguments and the unused capacity behind them are left as they were.
func applyResults(t *testing.T, list [][]impl.Record, a, b []impl.Record, start []impl.Node) string {
	t.Helper()
	list, a, b, start = withSpareStack(list), withSpare(a), withSpare(b), withSpareNodes(start)
	whole, wholeA, wholeB, wholeStart := wholeStack(list), slices.Clone(a[:cap(a)]), slices.Clone(b[:cap(b)]), slices.Clone(start[:cap(start)])
	result := resultOf(t, "a function of chapter 6", func() []any {
		one, oneCode := impl.Apply(a, start)
		all, allCode := impl.ApplyAll(list, start)
		view, viewCode := impl.ViewOf(list)
		changes, changesCode := impl.Changes(a, start)
		witness, witnessCode := impl.Witness(a, b)
		return []any{
			impl.StackOK(list), slices.Clip(one), oneCode, slices.Clip(all), allCode, slices.Clip(view), viewCode, changes, changesCode, slices.Clip(witness), witnessCode,
		}
	})
	if !slices.EqualFunc(wholeStack(list), whole, slices.Equal) {
		t.Errorf("a function of chapter 6 changes the stack %s", showStack(list))
	}
	if !slices.Equal(a[:cap(a)], wholeA) || !slices.Equal(b[:cap(b)], wholeB) || !slices.Equal(start[:cap(start)], wholeStart) {
		t.Errorf("a function of chapter 6 changes an argument of %d or %d records or of %d nodes", len(a), len(b), len(start))
	}
	return result
}

// checkRepeated makes calls in one order and again in the reverse one, and compares the results.
func checkRepeated(t *testing.T, n int, call func(i int) string) {
	t.Helper()
	first := make([]string, n)
	for i := range n {
		first[i] = call(i)
	}
	for i := n - 1; i >= 0; i-- {
		if call(i) != first[i] {
			t.Errorf("the results of call %d change from call to call", i)
		}
	}
}

func TestEqualStacksYieldEqualResults(t *testing.T) {
	long := make([]impl.Record, impl.MaxList+1)
	stacks := append(someStacks(30), nil, stack(nil), make([][]impl.Record, 5), make([][]impl.Record, 6), make([][]impl.Record, impl.MaxList), make([][]impl.Record, impl.MaxList+1),
		stack(filesAt("L", 16), filesAt("U", 16)), stack(whites(17)), stack(nil, long), stack(layer(white("b"), white("a"))))
	layers := append(someLayers(20), nil, whites(16), whites(17), layer(opaque("a", 1), white("a/b")), layer(dir("a", 1)), layer(impl.Record{}), make([]impl.Record, impl.MaxList), long)
	trees := append(someNodeLists(10), nil, base(), plainFiles(24), plainFiles(25), []impl.Node{{}}, tree(white("a")), make([]impl.Node, impl.MaxList), make([]impl.Node, impl.MaxList+1))
	call := func(i int) string {
		list, a, start := stacks[i%len(stacks)], layers[i%len(layers)], trees[i%len(trees)]
		return applyResults(t, list, a, layers[(i/3)%len(layers)], start)
	}
	checkRepeated(t, 1000, call)
}

// The tree that a layer leaves as it is must be a copy, too.
func TestResultsOfApplyingAreNew(t *testing.T) {
	layers := append(someLayers(10), nil, whites(16), layer(file("Aa", "new", 1)))
	for _, arg := range append(someNodeLists(20), nil, base(), plainFiles(16), plainFiles(24)) {
		for _, l := range layers {
			checkNew(t, arg, "Apply", func(list []impl.Node) []impl.Node {
				after, _ := impl.Apply(l, list)
				return after
			})
			for _, layers := range [][][]impl.Record{nil, stack(l), stack(whites(16), l)} {
				checkNew(t, arg, "ApplyAll", func(list []impl.Node) []impl.Node {
					after, _ := impl.ApplyAll(layers, list)
					return after
				})
			}
		}
	}
}

func TestViewsAndWitnessesAreNew(t *testing.T) {
	for _, list := range append(someStacks(60), nil, stack(filesAt("L", 16), filesAt("U", 16))) {
		one, _ := impl.ViewOf(list)
		two, _ := impl.ViewOf(list)
		before := slices.Clone(two)
		clear(one[:cap(one)])
		if !slices.Equal(two, before) || !slices.Equal(two, afterAllByRule(list, nil)) {
			t.Errorf("two results of ViewOf(%s) share memory", showStack(list))
		}
	}
	for _, pair := range [][2][]impl.Record{{nil, layer(white("a"))}, {layer(opaque("a", 1)), layer(dir("a", 1))}, {nil, layer(dir("a", 1))}} {
		one, _ := impl.Witness(pair[0], pair[1])
		two, _ := impl.Witness(pair[0], pair[1])
		clear(one[:cap(one)])
		if want, _ := witnessByRule(pair[0], pair[1]); !slices.Equal(two, want) {
			t.Errorf("two results of Witness(%s, %s) share memory", show(pair[0]), show(pair[1]))
		}
	}
}

// squashResults calls every function of chapter 7, and checks that the arguments and the unused capacity behind them are left as they were.
func squashResults(t *testing.T, list [][]impl.Record, a, b []impl.Record, path string, from, to int) string {
	t.Helper()
	list, a, b = withSpareStack(list), withSpare(a), withSpare(b)
	whole, wholeA, wholeB := wholeStack(list), slices.Clone(a[:cap(a)]), slices.Clone(b[:cap(b)])
	result := resultOf(t, "a function of chapter 7", func() []any {
		cuts, cutsCode := impl.Cuts(a, path)
		both, bothCode := impl.Squash(a, b)
		all, allCode := impl.SquashAll(list)
		hidden, hiddenCode := impl.Hidden(a, b)
		alike, alikeCode := impl.Alike(a, b)
		replaced, replacedCode := impl.Replaced(list, from, to)
		return []any{
			cuts, cutsCode, both, bothCode, all, allCode, hidden, hiddenCode, alike, alikeCode, replaced, replacedCode,
		}
	})
	if !slices.EqualFunc(wholeStack(list), whole, slices.Equal) {
		t.Errorf("a function of chapter 7 changes the stack %s", showStack(list))
	}
	if !slices.Equal(a[:cap(a)], wholeA) || !slices.Equal(b[:cap(b)], wholeB) {
		t.Errorf("a function of chapter 7 changes an argument of %d or %d records", len(a), len(b))
	}
	return result
}

func TestEqualLayersYieldEqualCombinations(t *testing.T) {
	long := make([]impl.Record, impl.MaxList+1)
	stacks := append(append(someStacks(30), wideStacks(30)...), nil, stack(nil), make([][]impl.Record, 5), make([][]impl.Record, 6), make([][]impl.Record, impl.MaxList), make([][]impl.Record, impl.MaxList+1),
		stack(filesAt("L", 16), filesAt("U", 16)), stack(whites(17)), stack(nil, long), stack(layer(white("b"), white("a"))))
	layers := append(someLayers(20), nil, whites(16), whites(17), filesAt("L", 16), layer(opaque("a", 1), white("a/b")), layer(dir("a", 1)), layer(impl.Record{}), make([]impl.Record, impl.MaxList), long)
	paths := []string{"", "a", "a/b", "a/b/c/d", "a/b/x/y", "b/w", "spare/x", "zap", "a//b", "a/b/c/d/e", tooLong()[0]}
	places := []int{0, 1, 5, 2, 3, -1, 4, 6, math.MinInt, math.MaxInt}
	call := func(i int) string {
		return squashResults(t, stacks[i%len(stacks)], layers[i%len(layers)], layers[(i/3)%len(layers)], paths[i%len(paths)], places[i/2%len(places)], places[i/5%len(places)])
	}
	checkRepeated(t, 1000, call)
}

// checkNewLayer checks that a combination changes neither with the layers it is made of nor with another result.
func checkNewLayer(t *testing.T, args [][]impl.Record, name string, call func([][]impl.Record) []impl.Record) {
	t.Helper()
	list := withSpareStack(args)
	before := wholeStack(list)
	want := call(args)
	one, two := call(list), call(list)
	clear(one[:cap(one)])
	_ = append(one, white("x"))
	if !slices.EqualFunc(wholeStack(list), before, slices.Equal) || !slices.Equal(two, want) {
		t.Errorf("a result of %s for %s shares memory with an argument or another result", name, showStack(args))
	}
	for _, l := range list {
		clear(l[:cap(l)])
	}
	if !slices.Equal(two, want) {
		t.Errorf("a result of %s for %s changes with an argument", name, showStack(args))
	}
}

// Also where one layer is empty or hides the other one, so that the combination equals an argument.
func TestCombinationsAreNew(t *testing.T) {
	layers := append(someLayers(30), nil, layer(), whites(16), layer(white("a"), white("a."), white("b"), white("c")))
	for i, lower := range layers {
		for _, upper := range [][]impl.Record{nil, layer(), lower, layers[(i+1)%len(layers)], layers[len(layers)-1]} {
			checkNewLayer(t, stack(lower, upper), "Squash", func(list [][]impl.Record) []impl.Record {
				both, _ := impl.Squash(list[0], list[1])
				return both
			})
			for _, list := range [][][]impl.Record{stack(lower), stack(lower, upper), stack(nil, lower, upper)} {
				checkNewLayer(t, list, "SquashAll", func(list [][]impl.Record) []impl.Record {
					all, _ := impl.SquashAll(list)
					return all
				})
			}
			one, _ := impl.Hidden(lower, upper)
			two, _ := impl.Hidden(lower, upper)
			clear(one[:cap(one)])
			if !slices.Equal(two, hiddenByRule(lower, upper)) {
				t.Errorf("two results of Hidden(%s, %s) share memory", show(lower), show(upper))
			}
		}
	}
}

// Each layer of a result is overwritten with all its capacity, and nothing else changes: no argument, no other result and no other layer of the result.
func TestReplacedStacksAreNew(t *testing.T) {
	for _, args := range append(someStacks(60), nil, stack(nil, layer(), nil), slices.Repeat(stack(layer(dir("a", 1), white("a/b"))), 4), slices.Repeat(stack(whites(16)), 5)) {
		for from := range len(args) + 1 {
			for to := from; to <= len(args); to++ {
				checkNewStack(t, args, from, to)
			}
		}
	}
	// One slice is all layers, and two layers are neighbours in one array.
	l := withSpare(layer(dir("a", 1), file("a/b", "x", 2)))
	checkNewStack(t, stack(l, l, l), 1, 1)
	checkNewStack(t, stack(l, l, l), 2, 3)
	both := append(layer(white("a")), white("b"))
	checkNewStack(t, stack(both[:1], both[1:]), 0, 0)
	checkNewStack(t, stack(both[:1], both[1:]), 0, 1)
}

func checkNewStack(t *testing.T, args [][]impl.Record, from, to int) {
	t.Helper()
	want, wantCode := replacedByRule(args, from, to)
	want = copyOfStack(want)
	before := wholeStack(args)
	one, code := impl.Replaced(args, from, to)
	two, _ := impl.Replaced(args, from, to)
	if code != wantCode {
		t.Fatalf("Replaced(%s, %d, %d) has the code %d", showStack(args), from, to, code)
	}
	for i := range one {
		clear(one[i][:cap(one[i])])
		if !slices.EqualFunc(one[i+1:], want[i+1:], slices.Equal) {
			t.Errorf("two layers of Replaced(%s, %d, %d) share memory", showStack(args), from, to)
		}
	}
	clear(one[:cap(one)])
	if !slices.EqualFunc(wholeStack(args), before, slices.Equal) || !slices.EqualFunc(two, want, slices.Equal) {
		t.Errorf("a result of Replaced(%s, %d, %d) shares memory with an argument or another result", showStack(args), from, to)
	}
}

func copyOfStack(list [][]impl.Record) [][]impl.Record {
	var out [][]impl.Record
	for _, l := range list {
		out = append(out, slices.Clone(l))
	}
	return out
}

// mergeResults calls every function of chapter 8, and checks that the stack and the unused capacity behind it are left as they were.
func mergeResults(t *testing.T, list [][]impl.Record, path string) string {
	t.Helper()
	list = withSpareStack(list)
	whole := wholeStack(list)
	result := resultOf(t, "a function of chapter 8", func() []any {
		paths, pathsCode := impl.PathsOf(list)
		cut, cutCode := impl.CutDepth(list, path)
		winner, number, winnerCode := impl.WinnerAt(list, path)
		merged, mergedCode := impl.MergeMany(list)
		picks, picksCode := impl.MergeTrace(list)
		return []any{
			paths, pathsCode, cut, cutCode, winner, number, winnerCode, merged, mergedCode, picks, picksCode,
		}
	})
	if !slices.EqualFunc(wholeStack(list), whole, slices.Equal) {
		t.Errorf("a function of chapter 8 changes the stack %s", showStack(list))
	}
	return result
}

func TestEqualStacksYieldEqualMerges(t *testing.T) {
	long := make([]impl.Record, impl.MaxList+1)
	stacks := append(append(someStacks(30), wideStacks(30)...), nil, stack(nil), make([][]impl.Record, 5), make([][]impl.Record, 6), make([][]impl.Record, impl.MaxList), make([][]impl.Record, impl.MaxList+1),
		stack(filesAt("L", 16), filesAt("U", 16)), slices.Repeat(stack(whites(16)), 5), stack(whites(17)), stack(nil, long), stack(layer(white("b"), white("a"))), stack(layer(impl.Record{})))
	paths := []string{"", "a", "a/b", "a/b/c/d", "a/b/x/y", "b/w", "spare", "spare/x", "zap", "a//b", "a/b/c/d/e", strings.Repeat("a", impl.MaxText), tooLong()[0]}
	checkRepeated(t, len(stacks)*len(paths), func(i int) string {
		return mergeResults(t, stacks[i%len(stacks)], paths[i/len(stacks)])
	})
}

// Also where one layer is the whole stack or hides the others, so that the merged layer equals it.
func TestMergesAreNew(t *testing.T) {
	for _, list := range append(append(someStacks(120), wideStacks(60)...), nil, stack(nil), stack(whites(16)), stack(nil, layer(white("a")), nil), slices.Repeat(stack(filesAt("L", 16)), 5)) {
		checkNewLayer(t, list, "MergeMany", func(list [][]impl.Record) []impl.Record {
			merged, _ := impl.MergeMany(list)
			return merged
		})
		checkNewList(t, list, "PathsOf", impl.PathsOf)
		checkNewList(t, list, "MergeTrace", impl.MergeTrace)
	}
	// One slice is all layers.
	l := withSpare(layer(dir("a", 1), file("a/b", "x", 2)))
	checkNewList(t, stack(l, l, l), "PathsOf", impl.PathsOf)
	checkNewList(t, stack(l, l, l), "MergeTrace", impl.MergeTrace)
}

// checkNewList checks that a list changes neither with the stack that it is about nor with another result.
func checkNewList[T comparable](t *testing.T, args [][]impl.Record, name string, call func([][]impl.Record) ([]T, int)) {
	t.Helper()
	list := withSpareStack(copyOfStack(args))
	want, _ := call(args)
	one, _ := call(list)
	two, _ := call(list)
	clear(one[:cap(one)])
	if !slices.Equal(two, want) {
		t.Errorf("two results of %s for %s share memory", name, showStack(args))
	}
	for _, l := range list {
		clear(l[:cap(l)])
	}
	if !slices.Equal(two, want) {
		t.Errorf("a result of %s for %s changes with its argument", name, showStack(args))
	}
}

// diffResults calls every function of chapter 9, and checks that the arguments and the unused capacity behind them are left as they were.
func diffResults(t *testing.T, a, b []impl.Node, l []impl.Record) string {
	t.Helper()
	a, b, l = withSpareNodes(a), withSpareNodes(b), withSpare(l)
	wholeA, wholeB, whole := slices.Clone(a[:cap(a)]), slices.Clone(b[:cap(b)]), slices.Clone(l[:cap(l)])
	result := resultOf(t, "a function of chapter 9", func() []any {
		between, betweenCode := impl.LayerBetween(a, b)
		touched, touchedCode := impl.Touched(a, b)
		undo, undoCode := impl.UndoOf(l, a)
		again, againCode := impl.Rebase(l, a)
		size, sizeCode := impl.SizeOf(l)
		return []any{
			between, betweenCode, touched, touchedCode, undo, undoCode, again, againCode, size, sizeCode,
		}
	})
	if !slices.Equal(a[:cap(a)], wholeA) || !slices.Equal(b[:cap(b)], wholeB) || !slices.Equal(l[:cap(l)], whole) {
		t.Errorf("a function of chapter 9 changes an argument of %d or %d nodes or of %d records", len(a), len(b), len(l))
	}
	return result
}

func TestEqualTreesYieldEqualDifferences(t *testing.T) {
	layers := append(someLayers(30), nil, whites(16), whites(17), filesAt("L", 16), layer(opaque("a", 1), white("a/b")), layer(white("d")), layer(dir("a", 1)), layer(white("b"), white("a")), layer(impl.Record{}),
		make([]impl.Record, impl.MaxList), make([]impl.Record, impl.MaxList+1))
	trees := append(someNodeLists(30), nil, base(), plainFiles(16), plainFiles(24), plainFiles(25), []impl.Node{{}}, tree(white("a")), tree(file("b", "", 0), file("a", "", 0)),
		make([]impl.Node, impl.MaxList), make([]impl.Node, impl.MaxList+1))
	checkRepeated(t, len(trees)*len(trees), func(i int) string {
		return diffResults(t, trees[i%len(trees)], trees[i/len(trees)], layers[i%len(layers)])
	})
}

// checkNewDifference checks that a list changes neither with the trees and the layer that it is about nor with another result.
func checkNewDifference[T comparable](t *testing.T, a, b []impl.Node, l []impl.Record, name string, call func(a, b []impl.Node, l []impl.Record) []T) {
	t.Helper()
	want := call(a, b, l)
	a, b, l = withSpareNodes(a), withSpareNodes(b), withSpare(l)
	one, two := call(a, b, l), call(a, b, l)
	clear(one[:cap(one)])
	if !slices.Equal(two, want) || !slices.Equal(call(a, b, l), want) {
		t.Errorf("a result of %s for %s, %s and %s shares memory with an argument or another result", name, showTree(a), showTree(b), show(l))
	}
	clear(a[:cap(a)])
	clear(b[:cap(b)])
	clear(l[:cap(l)])
	if !slices.Equal(two, want) {
		t.Errorf("a result of %s changes with an argument", name)
	}
}

// Also where the layer between two trees is the layer of one of them, or the layer that is rebased.
func TestDifferencesAreNew(t *testing.T) {
	trees := append(someNodeLists(30), nil, base(), plainFiles(16))
	for i, l := range append(someLayers(60), nil, whites(16), filesAt("L", 8), layer(white("d"))) {
		for _, pair := range [][2]int{{i, i + 1}, {i, i}, {30, i}, {i, 30}, {31, 32}} {
			a, b := trees[pair[0]%len(trees)], trees[pair[1]%len(trees)]
			checkNewDifference(t, a, b, l, "LayerBetween", func(a, b []impl.Node, _ []impl.Record) []impl.Record {
				between, _ := impl.LayerBetween(a, b)
				return between
			})
			checkNewDifference(t, a, b, l, "Touched", func(a, b []impl.Node, _ []impl.Record) []string {
				touched, _ := impl.Touched(a, b)
				return touched
			})
			checkNewDifference(t, a, b, l, "UndoOf", func(a, _ []impl.Node, l []impl.Record) []impl.Record {
				undo, _ := impl.UndoOf(l, a)
				return undo
			})
			checkNewDifference(t, a, b, l, "Rebase", func(a, _ []impl.Node, l []impl.Record) []impl.Record {
				again, _ := impl.Rebase(l, a)
				return again
			})
		}
	}
}

// bytesResults calls every function of chapter 10, and checks that the layer and the unused capacity behind it are left as they were.
func bytesResults(t *testing.T, r impl.Record, l []impl.Record, text string) string {
	t.Helper()
	l = withSpare(l)
	whole := slices.Clone(l[:cap(l)])
	result := resultOf(t, "a function of chapter 10", func() []any {
		record, recordCode := impl.EncodeRecord(r)
		back, backCode := impl.DecodeRecord(text)
		sum, sumCode := impl.LayerSum(text)
		encoded, encodedCode := impl.EncodeLayer(l)
		at, atCode := impl.FirstFault(text)
		decoded, decodedCode := impl.DecodeLayer(text)
		return []any{
			record, recordCode, back, backCode, sum, sumCode, encoded, encodedCode, at, atCode, slices.Clip(decoded), decodedCode,
		}
	})
	if !slices.Equal(l[:cap(l)], whole) {
		t.Errorf("a function of chapter 10 changes an argument of %d records", len(l))
	}
	return result
}

func TestEqualTextsYieldEqualResults(t *testing.T) {
	layers := append(someLayers(30), nil, whites(16), whites(17), largeLayer(), layer(opaque("a", 1), white("a/b")), layer(white("b"), white("a")), layer(impl.Record{}),
		make([]impl.Record, impl.MaxList), make([]impl.Record, impl.MaxList+1))
	records := append(fullRecords(), impl.Record{}, white(""), link("a", ""), dir("a", 512), file("a", body21, 0), white(tooLong()[0]))
	texts := append([]string{"", "LYR", "LYR\xff", "LYS\x00\xf6\xbf", strings.Repeat("\x00", impl.MaxText), "LYR\x01" + strings.Repeat("\x00", impl.MaxText)}, tooLong()[:2]...)
	for _, r := range fullRecords() {
		texts = append(texts, textOf(r), textOf(r)+"\x00", rawRecord(0, r.Path, r.Mode, r.Body))
	}
	for _, l := range layers[:34] {
		text := layerText(l)
		texts = append(texts, text, text+"\x00", text[1:], text[:len(text)-1], text[:len(text)/2])
	}
	checkRepeated(t, 3*len(texts), func(i int) string {
		return bytesResults(t, records[i%len(records)], layers[i%len(layers)], texts[i%len(texts)])
	})
}

// overlap reports whether two strings have memory in common, which no string shows by itself.
func overlap(a, b string) bool {
	startA, startB := uintptr(unsafe.Pointer(unsafe.StringData(a))), uintptr(unsafe.Pointer(unsafe.StringData(b)))
	return a != "" && b != "" && startA < startB+uintptr(len(b)) && startB < startA+uintptr(len(a))
}

// A decoded layer belongs to the caller, and its strings are no parts of the text or of one another.
func TestDecodedLayersAreNew(t *testing.T) {
	for _, l := range append(someLayers(60), nil, whites(16), largeLayer()) {
		text := layerText(l)
		one, _ := impl.DecodeLayer(text)
		two, _ := impl.DecodeLayer(text)
		parts := []string{text}
		for _, r := range slices.Concat(one, two) {
			parts = append(parts, r.Path, r.Body)
		}
		checkApart(t, parts)
		clear(one[:cap(one)])
		_ = append(one, white("x"))
		if three, _ := impl.DecodeLayer(text); !slices.Equal(two, l) || !slices.Equal(three, l) {
			t.Errorf("two results of DecodeLayer for %s share memory", show(l))
		}
	}
}

func checkApart(t *testing.T, parts []string) {
	t.Helper()
	for i, a := range parts {
		for _, b := range parts[i+1:] {
			if overlap(a, b) {
				t.Errorf("%.100q and %.100q share memory", a, b)
			}
		}
	}
}

func TestEncodingsAndDecodedRecordsAreNew(t *testing.T) {
	for _, r := range fullRecords() {
		one, _ := impl.EncodeRecord(r)
		two, _ := impl.EncodeRecord(r)
		back, _ := impl.DecodeRecord(one)
		again, _ := impl.DecodeRecord(one)
		if back != r || again != r {
			t.Fatalf("%s is decoded as %s and %s", show(layer(r)), show(layer(back)), show(layer(again)))
		}
		checkApart(t, []string{one, two, r.Path, back.Path, back.Body, again.Path, again.Body})
		checkApart(t, []string{one, two, r.Body})
	}
	for _, l := range someLayers(60) {
		one, _ := impl.EncodeLayer(l)
		two, _ := impl.EncodeLayer(l)
		checkApart(t, []string{one, two})
		before := slices.Clone(l)
		clear(l)
		if one != layerText(before) || two != one {
			t.Errorf("the encoding of %s changes with its argument", show(before))
		}
	}
}

// queryResults calls every function of chapter 11, and checks that the stack and the unused capacity behind it are left as they were.
func queryResults(t *testing.T, list [][]impl.Record, path string, off, n int) string {
	t.Helper()
	list = withSpareStack(list)
	whole := wholeStack(list)
	result := resultOf(t, "a function of chapter 11", func() []any {
		node, nodeCode := impl.LookUp(list, path)
		names, namesCode := impl.ReadDir(list, path)
		body, bodyCode := impl.ReadFile(list, path, off, n)
		target, targetCode := impl.ReadLink(list, path)
		below, belowCode := impl.Walk(list, path)
		number, numberCode := impl.LayerOf(list, path)
		return []any{
			node, nodeCode, names, namesCode, body, bodyCode, target, targetCode, below, belowCode, number, numberCode,
		}
	})
	if !slices.EqualFunc(wholeStack(list), whole, slices.Equal) {
		t.Errorf("a function of chapter 11 changes the stack %s", showStack(list))
	}
	return result
}

func TestEqualStacksYieldEqualAnswers(t *testing.T) {
	long := make([]impl.Record, impl.MaxList+1)
	stacks := append(append(someStacks(30), wideStacks(30)...), nil, stack(nil), make([][]impl.Record, 5), make([][]impl.Record, 6), make([][]impl.Record, impl.MaxList), make([][]impl.Record, impl.MaxList+1),
		stack(filesAt("L", 16), filesAt("U", 16)), slices.Repeat(stack(whites(16)), 5), stack(whites(17)), stack(nil, long), stack(layer(white("b"), white("a"))), stack(layer(impl.Record{})))
	paths := []string{"", "a", "a/b", "a/b/c/d", "a/b/x/y", "b/w", "spare", "spare/x", "zap", "a//b", "/", "a/b/c/d/e", strings.Repeat("a", impl.MaxText), tooLong()[0]}
	places := edgeNumbers()
	checkRepeated(t, len(stacks)*len(paths), func(i int) string {
		return queryResults(t, stacks[i%len(stacks)], paths[i/len(stacks)], places[i%len(places)], places[i/3%len(places)])
	})
}

// Lists of names and paths belong to the caller, and nodes and bodies do not change with the stack.
func TestAnswersAreNew(t *testing.T) {
	for _, list := range append(append(someStacks(90), wideStacks(30)...), nil, stack(nil), stack(nil, layer(file("a", "x", 1)), nil), slices.Repeat(stack(inDir("d", "L", 15)), 5)) {
		below, _ := impl.Walk(list, "")
		for _, path := range append([]string{"", "zap"}, below...) {
			checkNewList(t, list, "ReadDir", func(list [][]impl.Record) ([]string, int) { return impl.ReadDir(list, path) })
			checkNewList(t, list, "Walk", func(list [][]impl.Record) ([]string, int) { return impl.Walk(list, path) })
			checkNewAnswer(t, list, path)
		}
	}
	// One slice is all layers.
	l := withSpare(layer(dir("a", 1), file("a/b", "x", 2)))
	checkNewList(t, stack(l, l, l), "ReadDir", func(list [][]impl.Record) ([]string, int) { return impl.ReadDir(list, "a") })
	checkNewList(t, stack(l, l, l), "Walk", func(list [][]impl.Record) ([]string, int) { return impl.Walk(list, "") })
}

func checkNewAnswer(t *testing.T, args [][]impl.Record, path string) {
	t.Helper()
	view, _ := impl.ViewOf(args)
	want, _ := seenByRule(view, path)
	list := copyOfStack(args)
	n, _ := impl.LookUp(list, path)
	body, _ := impl.ReadFile(list, path, 0, impl.MaxBody)
	target, _ := impl.ReadLink(list, path)
	for _, l := range list {
		clear(l)
	}
	clear(list)
	if n != want || body+target != want.Body {
		t.Errorf("the answers at %q in %s change with the stack", path, showStack(args))
	}
}

// withSpareDisk returns the disk with unused capacity behind each of its lists, in which there are other files and slots.
func withSpareDisk(d impl.Disk) impl.Disk {
	files := append(slices.Clone(d.Inodes), impl.Inode{Id: 999999, Text: "spare"}, impl.Inode{}, impl.Inode{Id: 1})
	now := append(slices.Clone(d.Now), impl.Slot{Name: "zspare", Id: 1}, impl.Slot{}, impl.Slot{Name: "a", Id: 1})
	safe := append(slices.Clone(d.Safe), impl.Slot{Name: "zspare", Id: 2}, impl.Slot{}, impl.Slot{Name: "b", Id: 1})
	return impl.Disk{Inodes: files[:len(d.Inodes)], Now: now[:len(d.Now)], Safe: safe[:len(d.Safe)], Next: d.Next}
}

// wholeDisk copies a disk together with all its unused capacity.
func wholeDisk(d impl.Disk) impl.Disk {
	return impl.Disk{Inodes: slices.Clone(d.Inodes[:cap(d.Inodes)]), Now: slices.Clone(d.Now[:cap(d.Now)]), Safe: slices.Clone(d.Safe[:cap(d.Safe)]), Next: d.Next}
}

// diskResults calls every function of chapter 12, and checks that the disks, the picks and the unused capacity behind them are left as they were.
func diskResults(t *testing.T, d, other impl.Disk, name, to, text string, picks []int) string {
	t.Helper()
	d, other = withSpareDisk(d), withSpareDisk(other)
	picks = append(slices.Clone(picks), 1, 0, 1)[:len(picks)]
	whole, wholeOther, wholePicks := wholeDisk(d), wholeDisk(other), slices.Clone(picks[:cap(picks)])
	result := resultOf(t, "a function of chapter 12", func() []any {
		written, writeCode := impl.WriteFile(d, name, text)
		synced, syncCode := impl.SyncFile(d, name)
		renamed, renameCode := impl.RenameFile(d, name, to)
		removed, removeCode := impl.RemoveFile(d, name)
		safe, safeCode := impl.SyncDir(d)
		read, readCode := impl.DiskRead(d, name)
		after, crashCode := impl.Crash(d, picks)
		return []any{
			impl.DiskOK(d), impl.SameDisk(d, other), written, writeCode, synced, syncCode, renamed, renameCode, removed, removeCode, safe, safeCode, read, readCode, after, crashCode,
		}
	})
	if !equalDisks(wholeDisk(d), whole) || !equalDisks(wholeDisk(other), wholeOther) {
		t.Errorf("a function of chapter 12 changes %s or %s", showDisk(whole), showDisk(wholeOther))
	}
	if !slices.Equal(picks[:cap(picks)], wholePicks) {
		t.Errorf("Crash changes its %d picks", len(picks))
	}
	return result
}

func TestEqualDisksYieldEqualResults(t *testing.T) {
	disks := append(append(someDisks(12, 20), notDisks()...), emptyDisk(), wideDisk(24, 24), wideDisk(24, 0), impl.Disk{Next: 1000000})
	names := []string{"a", "b", "L0", "L30", "MANIFEST", "tmp", "new", "", "a b", "zspare", "abcdefghijklm", tooLong()[0]}
	texts := []string{"", "x", "\x00\xff", strings.Repeat("t", impl.MaxList), strings.Repeat("t", impl.MaxList+1), tooLong()[2]}
	picks := [][]int{nil, {1}, {0, 1, 0, 1}, slices.Repeat([]int{1, 2, -3}, 40), slices.Repeat([]int{math.MinInt, math.MaxInt}, 40), make([]int, impl.MaxList), make([]int, impl.MaxList+1)}
	checkRepeated(t, 4*len(disks), func(i int) string {
		d, other := disks[i%len(disks)], disks[i*i%len(disks)]
		return diskResults(t, d, other, names[i%len(names)], names[i/3%len(names)], texts[i%len(texts)], picks[i%len(picks)])
	})
}

// checkNewDisk checks that a disk changes neither with the argument nor with another result, nor one list of it with another one, also where the code says that the disk is unchanged.
func checkNewDisk(t *testing.T, arg impl.Disk, what any, call func(impl.Disk) (impl.Disk, int)) {
	t.Helper()
	before := wholeDisk(arg)
	want, _ := call(impl.Disk{Inodes: slices.Clone(arg.Inodes), Now: slices.Clone(arg.Now), Safe: slices.Clone(arg.Safe), Next: arg.Next})
	one, _ := call(arg)
	two, _ := call(arg)
	clear(one.Now[:cap(one.Now)])
	if !slices.Equal(one.Safe, want.Safe) {
		t.Errorf("the lists Now and Safe of a result of %v of %s share memory", what, showDisk(before))
	}
	clear(one.Safe[:cap(one.Safe)])
	clear(one.Inodes[:cap(one.Inodes)])
	if !equalDisks(wholeDisk(arg), before) || !equalDisks(two, want) {
		t.Errorf("a result of %v of %s shares memory with its argument or another result", what, showDisk(before))
	}
	clear(arg.Inodes[:cap(arg.Inodes)])
	clear(arg.Now[:cap(arg.Now)])
	clear(arg.Safe[:cap(arg.Safe)])
	if !equalDisks(two, want) {
		t.Errorf("a result of %v of %s changes with its argument", what, showDisk(before))
	}
}

// Also where nothing changes, so that a list of the result equals one of the argument, and where one slice is both directories of the argument.
func TestDisksAreNew(t *testing.T) {
	for _, d := range append(someDisks(24, 30), emptyDisk(), wideDisk(24, 0), wideDisk(24, 24), impl.Disk{Next: 1000000}, diskOf(1000000, "1A 2B!", "a1 b2", "b2")) {
		for _, o := range append(opsOver(d, "a", "L0", "new"), writing("", "x"), writing("a", strings.Repeat("t", impl.MaxList+1)), renaming("a", "")) {
			checkNewDisk(t, withSpareDisk(d), o, o.run)
		}
		for _, picks := range [][]int{nil, {1, 0, 1}, slices.Repeat([]int{1}, 99), slices.Repeat([]int{0, 1}, 99), picksToKeep(d, 25)} {
			checkNewDisk(t, withSpareDisk(d), picks, func(d impl.Disk) (impl.Disk, int) { return impl.Crash(d, picks) })
		}
	}
	for _, o := range []diskOp{syncingDir(), syncing("a"), syncing("c"), writing("a", "x"), writing("c", "x"), renaming("a", "b"), renaming("a", "a"), renaming("a", ""), removing("a"), removing("c")} {
		d := withSpareDisk(diskOf(9, "1A 2B!", "a1 b2", "a1 b2"))
		d.Safe = d.Now
		checkNewDisk(t, d, o, o.run)
		crashed := withSpareDisk(diskOf(9, "1A 2B!", "a1 b2", "a1 b2"))
		crashed.Safe = crashed.Now
		checkNewDisk(t, crashed, "Crash", func(d impl.Disk) (impl.Disk, int) { return impl.Crash(d, []int{1}) })
	}
}
