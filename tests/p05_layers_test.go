package tests

import (
	"maps"
	"math/rand"
	"slices"
	"strings"
	"testing"

	"loop.example/g00798/impl"
)

func file(path, body string, mode int) impl.Record {
	return impl.Record{Kind: impl.KindFile, Path: path, Body: body, Mode: mode}
}

func link(path, body string) impl.Record {
	return impl.Record{Kind: impl.KindLink, Path: path, Body: body}
}

func dir(path string, mode int) impl.Record {
	return impl.Record{Kind: impl.KindDir, Path: path, Mode: mode}
}

func opaque(path string, mode int) impl.Record {
	return impl.Record{Kind: impl.KindDir, Path: path, Mode: mode, Opaque: true}
}

func white(path string) impl.Record {
	return impl.Record{Kind: impl.KindWhite, Path: path}
}

func layer(records ...impl.Record) []impl.Record {
	return records
}

// whites returns n whiteouts in order, a layer if n is at most MaxRecords.
func whites(n int) []impl.Record {
	var l []impl.Record
	for i := range n {
		l = append(l, white(string([]byte{byte('A' + i/26), byte('a' + i%26)})))
	}
	return l
}

// orderKey turns the order of paths into that of strings: the least byte of a part is 33.
func orderKey(path string) string {
	return strings.ReplaceAll(path, "/", "\x00")
}

func parentByRule(path string) string {
	return path[:max(0, strings.LastIndex(path, "/"))]
}

// layerFaultByRule follows the wording of chapter 4, in another way than the program does.
func layerFaultByRule(l []impl.Record) (int, int) {
	kinds := map[string]int{}
	before := ""
	for i, r := range l {
		parent := parentByRule(r.Path)
		kind, found := kinds[parent]
		fault := faultByRule(r)
		switch {
		case i == 16:
			return i, impl.ErrMany
		case fault != 0:
			return i, fault
		case i > 0 && r.Path == before:
			return i, impl.ErrSame
		case i > 0 && orderKey(r.Path) < orderKey(before):
			return i, impl.ErrOrder
		case parent != "" && !found:
			return i, impl.ErrOrphan
		case parent != "" && kind != 3:
			return i, impl.ErrNotDir
		}
		kinds[r.Path], before = r.Kind, r.Path
	}
	return 0, 0
}

func underByRule(l []impl.Record, path string) bool {
	for up := parentByRule(path); up != ""; up = parentByRule(up) {
		for _, r := range l {
			if r.Path == up && r.Opaque {
				return true
			}
		}
	}
	return false
}

func canonicalByRule(l []impl.Record) []impl.Record {
	out := slices.Clone(l)
	for i, r := range l {
		if underByRule(l, r.Path) || strings.Count(r.Path, "/") == 3 {
			out[i].Opaque = false
		}
	}
	return slices.DeleteFunc(out, func(r impl.Record) bool { return r.Kind == 4 && underByRule(l, r.Path) })
}

// variants returns every record that this test uses at a path.
func variants(path string) []impl.Record {
	return layer(file(path, "x", 1), link(path, "y"), dir(path, 2), opaque(path, 3), white(path))
}

// everyLayer calls yield for each choice of one variant, or none, of each path, layers or not.
func everyLayer(paths []string, l []impl.Record, yield func([]impl.Record)) {
	if len(paths) == 0 {
		yield(l)
		return
	}
	everyLayer(paths[1:], l, yield)
	for _, r := range variants(paths[0]) {
		everyLayer(paths[1:], append(slices.Clone(l), r), yield)
	}
}

// poolPaths are paths of all depths, in order, with bytes on both sides of '/'.
func poolPaths() []string {
	return []string{"a", "a/!", "a/!/x", "a/b", "a/b/c", "a/b/c/d", "a/b/c/e", "a/b/f", "a/b.", "a/b./c", "a/b./c/d", "a/g", "a.", "a./b", "a./b/c", "a./b/c/d",
		"b", "b/c", "b/c/d", "b/c/d/e", "b/w", "c"}
}

// someLayers returns random layers of poolPaths, the same ones in each run.
func someLayers(n int) [][]impl.Record {
	random := rand.New(rand.NewSource(5))
	var all [][]impl.Record
	for len(all) < n {
		var l []impl.Record
		for _, path := range poolPaths() {
			choices := variants(path)
			// Directories are taken more often, so that deep paths occur.
			r := choices[[]int{0, 1, 2, 2, 2, 2, 3, 3, 4}[random.Intn(9)]]
			if _, code := layerFaultByRule(append(slices.Clone(l), r)); code == 0 && random.Intn(5) > 0 {
				l = append(l, r)
			}
		}
		all = append(all, l)
	}
	return all
}

func checkFault(t *testing.T, l []impl.Record, index, code int) {
	t.Helper()
	if i, c := impl.LayerFault(l); i != index || c != code {
		t.Errorf("LayerFault(%s) = %d, %d, want %d, %d", show(l), i, c, index, code)
	}
	if got := impl.LayerOK(l); got != (code == 0) {
		t.Errorf("LayerOK(%s) = %v", show(l), got)
	}
}

// checkCanonical checks the canonical form of a layer, and that the form is canonical.
func checkCanonical(t *testing.T, l, want []impl.Record) {
	t.Helper()
	form, code := impl.Canonical(l)
	if code != 0 || !slices.Equal(form, want) {
		t.Errorf("Canonical(%s) = %s, %d, want %s", show(l), show(form), code, show(want))
		return
	}
	if got := impl.IsCanonical(l); got != slices.Equal(l, want) {
		t.Errorf("IsCanonical(%s) = %v", show(l), got)
	}
	again, code := impl.Canonical(form)
	if code != 0 || !slices.Equal(again, form) || !impl.IsCanonical(form) || !impl.LayerOK(form) {
		t.Errorf("the canonical form %s is not canonical: %s, %d", show(form), show(again), code)
	}
}

func TestConstantsOfLayers(t *testing.T) {
	if impl.MaxRecords != 16 {
		t.Error("a constant differs from the document")
	}
}

func TestLayers(t *testing.T) {
	for _, l := range [][]impl.Record{
		nil,
		{},
		layer(file("a", "", 0)),
		layer(link("a", "a")),
		layer(dir("a", 0)),
		layer(opaque("a", 511)),
		layer(white("a")),
		layer(dir("a", 0), dir("a/b", 0), dir("a/b/c", 0), file("a/b/c/d", body20, 511)),
		layer(opaque("a", 1), white("a/b"), file("a/c", "", 0), link("a/d", "x"), opaque("a/e", 1), opaque("a/e/f", 1), opaque("a/e/f/g", 1)),
		layer(dir("a", 0), dir("a/b", 0), white("a/b/c"), white("a!"), white("a.b"), white("a0")),
		layer(dir("a", 0), dir("a/b", 0), dir("c", 0), white("c/b")),
		whites(15),
		whites(16),
	} {
		checkFault(t, l, 0, 0)
	}
}

func TestLayersWithOneInvalidRecord(t *testing.T) {
	for _, v := range []struct {
		l           []impl.Record
		index, code int
	}{
		{layer(impl.Record{}), 0, impl.ErrKind},
		{layer(impl.Record{Kind: 5, Path: "a"}), 0, impl.ErrKind},
		{layer(white("a"), impl.Record{Kind: -1, Path: "b"}), 1, impl.ErrKind},
		{layer(white("")), 0, impl.ErrName},
		{layer(dir("a", 0), white("a/")), 1, impl.ErrName},
		{layer(dir("a", 0), dir("a/b", 0), dir("a/b/c", 0), dir("a/b/c/d", 0), white("a/b/c/d/e")), 4, impl.ErrName},
		{layer(white("a"), file("b", body21, 0)), 1, impl.ErrSize},
		{layer(white("a"), link("b", "")), 1, impl.ErrSize},
		{layer(impl.Record{Kind: impl.KindDir, Path: "a", Body: "x"}), 0, impl.ErrForm},
		{layer(impl.Record{Kind: impl.KindWhite, Path: "a", Opaque: true}), 0, impl.ErrForm},
		{layer(white("a"), dir("b", 512)), 1, impl.ErrRange},
		{layer(white("a"), impl.Record{Kind: impl.KindWhite, Path: "b", Mode: 1}), 1, impl.ErrRange},
		{layer(white("a"), white("a")), 1, impl.ErrSame},
		{layer(dir("a", 0), opaque("a", 1)), 1, impl.ErrSame},
		{layer(dir("a", 0), white("a/b"), white("a/b"), white("c")), 2, impl.ErrSame},
		{layer(white("b"), white("a")), 1, impl.ErrOrder},
		{layer(white("a"), white("b"), white("a")), 2, impl.ErrOrder},
		{layer(dir("a", 0), white("a/b"), white("a")), 2, impl.ErrOrder},
		{layer(dir("a", 0), white("a.b"), white("a/b")), 2, impl.ErrOrder},
		{layer(dir("a", 0), dir("a/b", 0), white("a/c"), white("a/b/c")), 3, impl.ErrOrder},
		{layer(white("a/b")), 0, impl.ErrOrphan},
		{layer(white("a"), white("b/c")), 1, impl.ErrOrphan},
		{layer(dir("a", 0), white("a/b/c")), 1, impl.ErrOrphan},
		{layer(dir("a", 0), dir("a/b", 0), white("a/b/c/d")), 2, impl.ErrOrphan},
		{layer(dir("a", 0), dir("a/b", 0), dir("b", 0), dir("b/b", 0), white("b/c/d")), 4, impl.ErrOrphan},
		{layer(file("a", "", 0), white("a/b")), 1, impl.ErrNotDir},
		{layer(link("a", "b"), white("a/b")), 1, impl.ErrNotDir},
		{layer(white("a"), white("a/b")), 1, impl.ErrNotDir},
		{layer(dir("a", 0), white("a/b"), dir("a/b/c", 0)), 2, impl.ErrNotDir},
		{layer(opaque("a", 0), dir("a/b", 0), file("a/b/c", "", 0), link("a/b/c/d", "x")), 3, impl.ErrNotDir},
	} {
		checkFault(t, v.l, v.index, v.code)
	}
}

// All checks are made for one record before the next one, and in order for one record.
func TestTheFirstInvalidRecordDetermines(t *testing.T) {
	for _, v := range []struct {
		l           []impl.Record
		index, code int
	}{
		{layer(white("b/c"), impl.Record{}), 0, impl.ErrOrphan},
		{layer(file("a", "", 0), white("a/b"), white("a/b"), white("a"), impl.Record{}), 1, impl.ErrNotDir},
		{layer(white("b"), white("a"), white("a"), white("c/d")), 1, impl.ErrOrder},
		{layer(white("b"), white("b"), white("a"), impl.Record{}), 1, impl.ErrSame},
		{layer(white("b"), dir("c", -1), impl.Record{}), 1, impl.ErrRange},
		{layer(white("b"), link("b", "")), 1, impl.ErrSize},
		{layer(white("b"), link("a/c", "")), 1, impl.ErrSize},
		{layer(dir("b", 0), white("b/c/d")), 1, impl.ErrOrphan},
		{layer(white("b"), white("a/c")), 1, impl.ErrOrder},
		{layer(white("a"), white("b"), white("a/c")), 2, impl.ErrOrder},
		{layer(white("a"), white("a/b/c")), 1, impl.ErrOrphan},
		{layer(dir("b", 0), white("b/c"), white("b/c"), white("b/c/d")), 2, impl.ErrSame},
	} {
		checkFault(t, v.l, v.index, v.code)
	}
}

func TestTheNumberOfRecords(t *testing.T) {
	for _, last := range layer(white("z"), impl.Record{}, white(""), white("Aa"), whites(16)[15], white("z/y"), white("Aa/y"), dir("z", 512), file("z", body21, 0)) {
		checkFault(t, append(whites(16), last), 16, impl.ErrMany)
		checkFault(t, append(whites(16), last, impl.Record{}, last), 16, impl.ErrMany)
	}
	for _, n := range []int{17, 18, 100} {
		checkFault(t, whites(n), 16, impl.ErrMany)
	}
	for i := range 16 {
		for _, n := range []int{16, 17, 40} {
			l := whites(n)
			l[i] = impl.Record{}
			checkFault(t, l, i, impl.ErrKind)
		}
	}
	checkFault(t, append(whites(15), impl.Record{}, white("z")), 15, impl.ErrKind)
	checkFault(t, append(whites(15), whites(15)[14], white("z")), 15, impl.ErrSame)
}

func TestAllChoicesOfRecords(t *testing.T) {
	seen := map[int]int{}
	everyLayer([]string{"a", "a/b", "a/b/c", "a/b/c/d", "a/c", "a.b"}, nil, func(l []impl.Record) {
		index, code := layerFaultByRule(l)
		seen[code]++
		checkFault(t, l, index, code)
		if code == 0 {
			checkCanonical(t, l, canonicalByRule(l))
		} else {
			checkInvalid(t, l, "a", impl.ErrBad)
		}
	})
	for _, code := range []int{impl.OK, impl.ErrOrphan, impl.ErrNotDir} {
		if seen[code] == 0 {
			t.Errorf("no list of this test has the code %d", code)
		}
	}
}

func TestAllShortLists(t *testing.T) {
	pool := layer(dir("a", 0), opaque("a", 1), file("a", "", 0), white("a/b"), dir("a/b", 0), link("a/b/c", "x"), white("a.b"), white("b"), dir("b", 512),
		impl.Record{}, white("a/"), link("b", ""), impl.Record{Kind: impl.KindWhite, Path: "b", Body: "x"})
	seen := map[int]int{}
	for _, r := range pool {
		for _, s := range pool {
			for _, u := range pool {
				l := layer(r, s, u)
				index, code := layerFaultByRule(l)
				seen[code]++
				checkFault(t, l, index, code)
			}
		}
	}
	for _, code := range []int{impl.OK, impl.ErrKind, impl.ErrName, impl.ErrSize, impl.ErrForm, impl.ErrRange, impl.ErrSame, impl.ErrOrder, impl.ErrOrphan, impl.ErrNotDir} {
		if seen[code] == 0 {
			t.Errorf("no list of this test has the code %d", code)
		}
	}
}

// checkInvalid checks that every function refuses a list that is not a layer, with zero values.
func checkInvalid(t *testing.T, l []impl.Record, path string, want int) {
	t.Helper()
	if r, code := impl.FindRecord(l, path); r != (impl.Record{}) || code != want {
		t.Errorf("FindRecord(%s, %.20q) = %s, %d, want the code %d", show(l), path, show(layer(r)), code, want)
	}
	if under, code := impl.UnderOpaque(l, path); under || code != want {
		t.Errorf("UnderOpaque(%s, %.20q) = %v, %d, want the code %d", show(l), path, under, code, want)
	}
	if form, code := impl.Canonical(l); len(form) != 0 || code != want {
		t.Errorf("Canonical(%s) = %s, %d, want the code %d", show(l), show(form), code, want)
	}
	if impl.LayerOK(l) || impl.IsCanonical(l) || impl.SameLayer(l, l) || impl.SameLayer(l, nil) || impl.SameLayer(nil, l) {
		t.Errorf("a function accepts %s, which is not a layer", show(l))
	}
}

// ErrBad precedes ErrName and ErrNone, and also a record with the path is of no use then.
func TestListsThatAreNotLayers(t *testing.T) {
	for _, l := range [][]impl.Record{
		layer(impl.Record{}),
		layer(opaque("a", 0), white("a/b"), white("a/b")),
		layer(opaque("b", 0), white("a")),
		layer(opaque("a", 0), white("a/b/c")),
		layer(opaque("a", 0), white("a/b"), white("a/b/c")),
		layer(opaque("a", 0), white("")),
		layer(opaque("a", 0), white("a/"), white("b")),
		append(layer(opaque("A", 0)), whites(16)...),
	} {
		for _, path := range append(notPaths(), "a", "A", "a/b", "b", "a/b/c", "z", strings.Repeat("a", impl.MaxText)) {
			checkInvalid(t, l, path, impl.ErrBad)
		}
	}
}

// ErrLong precedes everything else: a list of more than MaxList elements has no invalid record of interest.
func TestListsThatAreTooLong(t *testing.T) {
	for _, n := range []int{impl.MaxList + 1, impl.MaxList + 100} {
		for _, first := range layer(white("A"), opaque("A", 0), impl.Record{}, white("")) {
			l := append(layer(first), make([]impl.Record, n-1)...)
			copy(l[1:], whites(15))
			checkFault(t, l, 0, impl.ErrLong)
			for _, path := range append(tooLong(), "A", "a", "", "a//b") {
				checkInvalid(t, l, path, impl.ErrLong)
			}
		}
	}
}

func TestListsOfMaxListElements(t *testing.T) {
	l := append(whites(16), make([]impl.Record, impl.MaxList-16)...)
	checkFault(t, l, 16, impl.ErrMany)
	checkInvalid(t, l, "Aa", impl.ErrBad)
	l[0] = impl.Record{}
	checkFault(t, l, 0, impl.ErrKind)
	checkInvalid(t, l, "Aa", impl.ErrBad)
}

func TestPathsThatAreTooLong(t *testing.T) {
	for _, long := range tooLong() {
		for _, l := range [][]impl.Record{nil, layer(opaque("a", 0), white("a/b")), layer(white("b"), white("a")), whites(17)} {
			if r, code := impl.FindRecord(l, long); r != (impl.Record{}) || code != impl.ErrLong {
				t.Errorf("FindRecord returns %s and %d", show(layer(r)), code)
			}
			if under, code := impl.UnderOpaque(l, long); under || code != impl.ErrLong {
				t.Errorf("UnderOpaque returns %v and %d", under, code)
			}
		}
	}
	full := strings.Repeat("a/", impl.MaxText/2)
	l := layer(opaque("a", 0))
	if r, code := impl.FindRecord(l, full); r != (impl.Record{}) || code != impl.ErrNone {
		t.Errorf("FindRecord of MaxText bytes returns %s and %d", show(layer(r)), code)
	}
	if under, code := impl.UnderOpaque(l, full); under || code != impl.ErrName {
		t.Errorf("UnderOpaque of MaxText bytes returns %v and %d", under, code)
	}
}

// Strings inside a record are limited only as chapter 3 says, so that the code is not ErrLong.
func TestLongStringsInsideALayer(t *testing.T) {
	for _, long := range tooLong() {
		checkFault(t, layer(white("a"), white(long)), 1, impl.ErrName)
		checkFault(t, layer(white("a"), file("b", long, 0)), 1, impl.ErrSize)
		checkInvalid(t, layer(white("a"), white(long)), "a", impl.ErrBad)
	}
}

func TestFoundRecords(t *testing.T) {
	others := append(poolPaths(), "zap", "a/b/c/d/e", "a/zap", "A", "a/b/", "/a", "")
	for _, l := range append(someLayers(300), nil, whites(16)) {
		byPath := map[string]impl.Record{}
		for _, r := range l {
			byPath[r.Path] = r
		}
		paths := append(slices.Collect(maps.Keys(byPath)), others...)
		for _, path := range append(paths, notPaths()...) {
			want, found := byPath[path]
			wantCode := 0
			if !found {
				wantCode = impl.ErrNone
			}
			if r, code := impl.FindRecord(l, path); r != want || code != wantCode {
				t.Errorf("FindRecord(%s, %q) = %s, %d, want %s, %d", show(l), path, show(layer(r)), code, show(layer(want)), wantCode)
			}
		}
	}
}

func TestUnderOpaque(t *testing.T) {
	l := layer(dir("a", 0), opaque("a/b", 0), dir("a/b/c", 0), opaque("b", 0), opaque("b/c", 0), file("b/c/d", "", 0), dir("b.c", 0))
	for path, want := range map[string]bool{
		"a": false, "a/b": false, "a/x": false, "a/b.": false, "a/b/c": true, "a/b/x": true, "a/b/c/d": true, "a/b/x/y": true,
		"b": false, "b/c": true, "b/c/d": true, "b/c/d/e": true, "b/x/y/z": true, "b.c": false, "b.c/d": false, "b0": false, "z": false, "z/y": false,
	} {
		if under, code := impl.UnderOpaque(l, path); under != want || code != 0 {
			t.Errorf("UnderOpaque(%q) = %v, %d", path, under, code)
		}
	}
	for _, path := range notPaths() {
		for _, l := range [][]impl.Record{l, nil} {
			if under, code := impl.UnderOpaque(l, path); under || code != impl.ErrName {
				t.Errorf("UnderOpaque(%q) = %v, %d", path, under, code)
			}
		}
	}
}

func TestUnderOpaqueInSomeLayers(t *testing.T) {
	for _, l := range append(someLayers(500), nil, whites(16)) {
		for _, path := range append(poolPaths(), "b/x", "a/b/c/x", "a./x/y/z", "zap", "zap/zap") {
			if under, code := impl.UnderOpaque(l, path); under != underByRule(l, path) || code != 0 {
				t.Errorf("UnderOpaque(%s, %q) = %v, %d", show(l), path, under, code)
			}
		}
	}
}

func TestCanonicalForms(t *testing.T) {
	for _, v := range []struct{ l, want []impl.Record }{
		{nil, nil},
		{layer(), nil},
		{layer(white("a")), layer(white("a"))},
		{layer(opaque("a", 1)), layer(opaque("a", 1))},
		{layer(opaque("a", 1), white("a/b")), layer(opaque("a", 1))},
		{layer(opaque("a", 1), opaque("a/b", 2)), layer(opaque("a", 1), dir("a/b", 2))},
		{layer(opaque("a", 1), dir("a/b", 2), white("a/b/c"), dir("a/b/d", 3), white("a/b/d/e")), layer(opaque("a", 1), dir("a/b", 2), dir("a/b/d", 3))},
		{layer(opaque("a", 1), dir("a/b", 2), opaque("a/b/c", 3), opaque("a/b/c/d", 4)), layer(opaque("a", 1), dir("a/b", 2), dir("a/b/c", 3), dir("a/b/c/d", 4))},
		{layer(opaque("a", 1), opaque("a/b", 2), white("a/b/c")), layer(opaque("a", 1), dir("a/b", 2))},
		{layer(opaque("a", 1), file("a/b", "x", 2), link("a/c", "y")), layer(opaque("a", 1), file("a/b", "x", 2), link("a/c", "y"))},
		{layer(dir("a", 1), dir("a/b", 2), dir("a/b/c", 3), opaque("a/b/c/d", 4)), layer(dir("a", 1), dir("a/b", 2), dir("a/b/c", 3), dir("a/b/c/d", 4))},
		{layer(dir("a", 1), dir("a/b", 2), dir("a/b/c", 3), white("a/b/c/d")), layer(dir("a", 1), dir("a/b", 2), dir("a/b/c", 3), white("a/b/c/d"))},
		{layer(dir("a", 1), dir("a/b", 2), opaque("a/b/c", 3), white("a/b/c/d")), layer(dir("a", 1), dir("a/b", 2), opaque("a/b/c", 3))},
		{layer(dir("a", 1), opaque("a/b", 2), white("a/b/c"), white("a/c"), white("b")), layer(dir("a", 1), opaque("a/b", 2), white("a/c"), white("b"))},
		{layer(opaque("a", 1), white("a/b"), white("a."), white("ab")), layer(opaque("a", 1), white("a."), white("ab"))},
		{layer(opaque("a", 1), opaque("a.", 2), white("a./b")), layer(opaque("a", 1), opaque("a.", 2))},
		{whites(16), whites(16)},
		{append(layer(dir("A", 0)), whites(15)...), append(layer(dir("A", 0)), whites(15)...)},
	} {
		checkCanonical(t, v.l, v.want)
	}
}

func TestCanonicalFormsOfSomeLayers(t *testing.T) {
	canonical, others := 0, 0
	for _, l := range someLayers(3000) {
		want := canonicalByRule(l)
		checkCanonical(t, l, want)
		if slices.Equal(l, want) {
			canonical++
		} else {
			others++
		}
	}
	if canonical < 100 || others < 100 {
		t.Errorf("this test has %d canonical layers and %d others", canonical, others)
	}
}

func TestSameLayer(t *testing.T) {
	all := [][]impl.Record{nil, layer(white("a")), layer(white("b")), layer(white("a"), white("b")), layer(dir("a", 0)), layer(dir("a", 1)), layer(opaque("a", 0)),
		layer(file("a", "", 0)), layer(file("a", "x", 0)), layer(link("a", "x")), layer(opaque("a", 0), white("a/b")), layer(opaque("a", 0), dir("a/b", 0)), whites(15), whites(16)}
	for i, a := range all {
		for k, b := range all {
			if got := impl.SameLayer(a, slices.Clone(b)); got != (i == k) {
				t.Errorf("SameLayer(%s, %s) = %v", show(a), show(b), got)
			}
		}
	}
	if !impl.SameLayer(nil, layer()) || !impl.SameLayer(layer(), nil) {
		t.Error("an empty slice and nil are not the same layer")
	}
	if !impl.IsCanonical(nil) || !impl.IsCanonical(layer()) {
		t.Error("the empty layer is not canonical")
	}
}

// someTrees returns trees as maps of paths to their nodes: the empty one, full ones, and random ones.
func someTrees() []map[string]impl.Node {
	random := rand.New(rand.NewSource(7))
	trees := []map[string]impl.Node{{}}
	extra := []string{"a/b/c/new", "a/new", "b/c/d/new", "b/new", "new", "c/new", "c/new/a"}
	for i := range 40 {
		tree := map[string]impl.Node{}
		paths := append(poolPaths(), extra...)
		slices.SortFunc(paths, func(a, b string) int { return strings.Compare(orderKey(a), orderKey(b)) })
		for _, path := range paths {
			up := parentByRule(path)
			if up != "" && tree[up].Kind != impl.KindDir || i > 10 && random.Intn(4) == 0 {
				continue
			}
			kind := impl.KindDir
			if i > 0 && random.Intn(5) == 0 {
				kind = impl.KindFile
			}
			tree[path] = impl.Node{Kind: kind, Path: path, Mode: 100 + random.Intn(3)}
		}
		trees = append(trees, tree)
	}
	return trees
}

// applyByRule follows the wording of chapter 6 for what a layer does to a tree.
func applyByRule(l []impl.Record, tree map[string]impl.Node) map[string]impl.Node {
	out := maps.Clone(tree)
	for _, r := range l {
		stays := r.Kind == impl.KindDir && out[r.Path].Kind == impl.KindDir && !r.Opaque
		maps.DeleteFunc(out, func(path string, _ impl.Node) bool {
			return !stays && strings.HasPrefix(path, r.Path+"/")
		})
		delete(out, r.Path)
		if r.Kind != impl.KindWhite {
			out[r.Path] = impl.Node{Kind: r.Kind, Path: r.Path, Body: r.Body, Mode: r.Mode}
		}
	}
	return out
}

// The canonical form places and hides the same, also on trees that are larger than MaxNodes.
func TestTheCanonicalFormHasTheSameEffect(t *testing.T) {
	trees := someTrees()
	changed := 0
	for _, l := range someLayers(800) {
		form, code := impl.Canonical(l)
		if code != 0 {
			t.Fatalf("Canonical(%s) has the code %d", show(l), code)
		}
		if !slices.Equal(form, l) {
			changed++
		}
		for _, tree := range trees {
			if !maps.Equal(applyByRule(l, tree), applyByRule(form, tree)) {
				t.Errorf("%s and its canonical form %s have different effects on %v", show(l), show(form), tree)
			}
		}
	}
	if changed < 100 {
		t.Errorf("only %d layers of this test are not canonical", changed)
	}
}

// Promise 5 with the functions of chapters 6 and 7, on trees as they are.
func TestTheCanonicalFormApplied(t *testing.T) {
	trees := append(append(someNodeLists(10), fullTrees()...), chainTrees()...)
	changed := 0
	for _, l := range append(append(someLayers(150), chainLayers()...), nil, whites(16)) {
		form, _ := impl.Canonical(l)
		if !slices.Equal(form, l) {
			changed++
		}
		checkAlike(t, l, form, true, 0)
		for _, list := range trees {
			want, code := impl.Apply(l, list)
			checkApply(t, form, list, want, code)
			changes, _ := impl.Changes(l, list)
			checkChanges(t, form, list, changes, 0)
		}
	}
	if changed < 100 {
		t.Errorf("only %d layers of this test are not canonical", changed)
	}
}
