package tests

import (
	"math/rand"
	"slices"
	"strconv"
	"strings"
	"testing"

	"loop.example/g00798/impl"
)

// witnessByRule follows the wording of chapter 6, in another way than the program does: it asks every path of both forms.
func witnessByRule(a, b []impl.Record) ([]impl.Node, int) {
	var forms [2]map[string]impl.Record
	var paths []string
	for i, l := range [][]impl.Record{a, b} {
		forms[i] = map[string]impl.Record{}
		for _, r := range canonicalByRule(l) {
			forms[i][r.Path] = r
			paths = append(paths, r.Path)
		}
	}
	slices.SortFunc(paths, func(p, q string) int { return strings.Compare(orderKey(p), orderKey(q)) })
	for _, path := range paths {
		r, hasR := forms[0][path]
		s, hasS := forms[1][path]
		switch {
		case hasR && hasS && r == s:
			continue
		case r.Kind == 4 && !hasS || s.Kind == 4 && !hasR:
			return loneFile(path), 0
		case r.Kind == 3 && s.Kind == 3 && r.Mode == s.Mode:
			return loneFile(path + "/" + freePartByRule(forms, path)), 0
		}
		return nil, 0
	}
	return nil, impl.ErrSame
}

func freePartByRule(forms [2]map[string]impl.Record, dir string) string {
	for i := range 100 {
		part := "z" + strconv.Itoa(i)
		_, inA := forms[0][dir+"/"+part]
		_, inB := forms[1][dir+"/"+part]
		if !inA && !inB {
			return part
		}
	}
	panic("two layers have more than 32 records")
}

// loneFile returns the tree of an empty file and the directories above it.
func loneFile(path string) []impl.Node {
	list := tree(file(path, "", 0))
	for up := parentByRule(path); up != ""; up = parentByRule(up) {
		list = append(list, nodeOf(dir(up, 0)))
	}
	slices.Reverse(list)
	return list
}

func checkWitness(t *testing.T, a, b []impl.Record, want []impl.Node, wantCode int) {
	t.Helper()
	for _, pair := range [][2][]impl.Record{{a, b}, {b, a}} {
		if got, code := impl.Witness(pair[0], pair[1]); !slices.Equal(got, want) || code != wantCode {
			t.Errorf("Witness(%s, %s) = %s, %d, want %s, %d", show(pair[0]), show(pair[1]), showTree(got), code, showTree(want), wantCode)
		}
	}
}

// checkTold checks a pair of layers: they have the same effect on all these trees, or different ones on the tree that is returned.
func checkTold(t *testing.T, a, b []impl.Record, trees [][]impl.Node) int {
	t.Helper()
	want, wantCode := witnessByRule(a, b)
	checkWitness(t, a, b, want, wantCode)
	checkAlike(t, a, b, wantCode == impl.ErrSame, 0)
	list, code := impl.Witness(a, b)
	if code == 0 {
		after, codeA := impl.Apply(a, list)
		other, codeB := impl.Apply(b, list)
		if !impl.TreeOK(list) || codeA != 0 || codeB != 0 || slices.Equal(after, other) {
			t.Errorf("%s and %s have the same effect on their witness %s: %s, %s", show(a), show(b), showTree(list), showTree(after), showTree(other))
		}
		return code
	}
	for _, list := range trees {
		after, codeA := impl.Apply(a, list)
		other, codeB := impl.Apply(b, list)
		changesA, _ := impl.Changes(a, list)
		changesB, _ := impl.Changes(b, list)
		if !slices.Equal(after, other) || codeA != codeB || changesA != changesB {
			t.Errorf("%s and %s have no witness, but different effects on %s", show(a), show(b), showTree(list))
		}
	}
	return code
}

// withOneMode returns the layers with the Mode of all directories the same, so that some of them differ in nothing but Opaque.
func withOneMode(layers [][]impl.Record) [][]impl.Record {
	for _, l := range layers {
		for i := range l {
			if l[i].Kind == impl.KindDir {
				l[i].Mode = 2
			}
		}
	}
	return layers
}

func TestEveryPairOfLayersOfAChain(t *testing.T) {
	layers, trees := withOneMode(chainLayers()), chainTrees()
	same, told := 0, 0
	for i, a := range layers {
		for k, b := range layers {
			code := checkTold(t, a, b, trees)
			switch {
			case i == k && code != impl.ErrSame:
				t.Errorf("Witness(%s) of the layer itself has the code %d", show(a), code)
			case i != k && code == impl.ErrSame:
				same++
			case code == 0:
				told++
			}
		}
	}
	if same < 50 || told < 1000 {
		t.Errorf("this test has %d pairs of different layers with the same form and %d with a witness", same, told)
	}
}

// changedLayers returns layers that differ from l in one record, one field of a record, or one whiteout more.
func changedLayers(l []impl.Record) [][]impl.Record {
	var all [][]impl.Record
	for i, r := range l {
		all = append(all, slices.Delete(slices.Clone(l), i, i+1))
		for _, s := range append(variants(r.Path), changedFields(r)...) {
			more := slices.Clone(l)
			more[i] = s
			all = append(all, more)
		}
	}
	for _, path := range poolPaths() {
		for _, r := range variants(path) {
			more := append(slices.Clone(l), r)
			slices.SortStableFunc(more, func(a, b impl.Record) int { return strings.Compare(orderKey(a.Path), orderKey(b.Path)) })
			all = append(all, more)
		}
	}
	return slices.DeleteFunc(all, func(l []impl.Record) bool {
		_, code := layerFaultByRule(l)
		return code != 0
	})
}

func changedFields(r impl.Record) []impl.Record {
	mode, body, flag := r, r, r
	mode.Mode = r.Mode ^ 256
	body.Body = r.Body + "+"
	flag.Opaque = !r.Opaque
	return layer(mode, body, flag)
}

func TestLayersThatDifferInOneRecord(t *testing.T) {
	trees := append(someNodeLists(8), fullTrees()...)
	codes := map[int]int{}
	for _, l := range append(someLayers(60), nil, whites(15), whites(16)) {
		for _, other := range changedLayers(l) {
			codes[checkTold(t, l, other, trees)]++
		}
	}
	if codes[0] < 1000 || codes[impl.ErrSame] < 100 || len(codes) != 2 {
		t.Errorf("the codes of this test are %v", codes)
	}
}

func TestSomePairsOfLayers(t *testing.T) {
	random := rand.New(rand.NewSource(7))
	layers := append(someLayers(300), chainLayers()...)
	for range 5000 {
		checkTold(t, layers[random.Intn(len(layers))], layers[random.Intn(len(layers))], nil)
	}
}

// pairsOfOneForm returns pairs of layers that have the same canonical form.
func pairsOfOneForm() [][2][]impl.Record {
	return [][2][]impl.Record{
		{nil, layer()},
		{layer(opaque("a", 1), white("a/b")), layer(opaque("a", 1))},
		{layer(opaque("a", 1), white("a/b")), layer(opaque("a", 1), white("a/c"), white("a/d"))},
		{layer(opaque("a", 1), opaque("a/b", 2)), layer(opaque("a", 1), dir("a/b", 2))},
		{layer(opaque("a", 1), opaque("a/b", 2), white("a/b/c")), layer(opaque("a", 1), dir("a/b", 2))},
		{layer(dir("a", 1), dir("a/b", 2), dir("a/b/c", 3), opaque("a/b/c/d", 4)), layer(dir("a", 1), dir("a/b", 2), dir("a/b/c", 3), dir("a/b/c/d", 4))},
	}
}

// A layer and its canonical form have the same effect, and so have two layers with one form.
func TestLayersWithTheSameForm(t *testing.T) {
	trees := append(append(someNodeLists(15), fullTrees()...), chainTrees()[20:40]...)
	differ := 0
	for _, l := range append(someLayers(120), nil, whites(16)) {
		form, _ := impl.Canonical(l)
		if !slices.Equal(form, l) {
			differ++
		}
		for _, other := range [][]impl.Record{slices.Clone(l), form} {
			if code := checkTold(t, l, other, trees); code != impl.ErrSame {
				t.Errorf("Witness(%s, %s) has the code %d", show(l), show(other), code)
			}
		}
	}
	if differ < 50 {
		t.Errorf("only %d layers of this test are not canonical", differ)
	}
	for _, pair := range pairsOfOneForm() {
		checkWitness(t, pair[0], pair[1], nil, impl.ErrSame)
		checkTold(t, pair[0], pair[1], trees)
	}
}

func TestAWhiteoutBesideNoRecord(t *testing.T) {
	one, two, three := dir("a", 1), dir("a/b", 2), dir("a/b/c", 3)
	for _, v := range []struct {
		a, b []impl.Record
		path string
	}{
		{nil, layer(white("q")), "q"},
		{layer(white("a")), layer(white("a"), white("b")), "b"},
		{layer(white("b")), layer(white("a"), white("b")), "a"},
		{layer(white("a")), layer(white("b")), "a"},
		{layer(white("b"), file("c", "", 0)), layer(file("c", "", 0)), "b"},
		{layer(one, white("a/b")), layer(one), "a/b"},
		{layer(one, white("a/c")), layer(one, white("a/d")), "a/c"},
		{layer(one, white("a/c")), layer(one, file("a/d", "", 0)), "a/c"},
		{layer(one, white("a/c"), white("b")), layer(one, dir("c", 0)), "a/c"},
		{layer(one, two, white("a/b/c")), layer(one, two), "a/b/c"},
		{layer(one, two, three, white("a/b/c/d")), layer(one, two, three), "a/b/c/d"},
		{layer(one, two, three, white("a/b/c/d"), white("a/c")), layer(one, two, three, white("a/c")), "a/b/c/d"},
		{layer(one, two, white("a/b/c")), layer(one, two, white("a/b/d"), white("b")), "a/b/c"},
		{layer(one, white("a!")), layer(one, white("a."), white("b")), "a!"},
		{layer(one, white("a/b"), white("a!")), layer(one, white("a!")), "a/b"},
		{whites(16), whites(15), "Ap"},
		{whites(16), whites(16)[1:], "Aa"},
	} {
		checkWitness(t, v.a, v.b, loneFile(v.path), 0)
		checkTold(t, v.a, v.b, nil)
	}
}

// A whiteout that the canonical form does not have is no difference, nor is one beside a record.
func TestOtherWhiteouts(t *testing.T) {
	one := opaque("a", 1)
	checkWitness(t, layer(one, white("a/b"), white("c")), layer(one), loneFile("c"), 0)
	checkWitness(t, layer(one, white("a/b")), layer(one, file("a/c", "", 0)), nil, 0)
	checkWitness(t, layer(one, white("a/c")), layer(one, file("a/c", "", 0)), nil, 0)
	for _, r := range layer(file("a", "", 0), file("a", "x", 1), link("a", "x"), dir("a", 0), dir("a", 1), opaque("a", 0), opaque("a", 1)) {
		checkWitness(t, layer(white("a")), layer(r), nil, 0)
		checkWitness(t, nil, layer(r), nil, 0)
		checkWitness(t, layer(white("b")), layer(r, white("b")), nil, 0)
		checkWitness(t, layer(white("b")), layer(r), nil, 0)
		checkWitness(t, layer(white("A")), layer(r), loneFile("A"), 0)
	}
}

func TestDirectoriesWithTheSameMode(t *testing.T) {
	for _, v := range []struct {
		a, b []impl.Record
		path string
	}{
		{layer(opaque("a", 0)), layer(dir("a", 0)), "a/z0"},
		{layer(opaque("a", 511)), layer(dir("a", 511)), "a/z0"},
		{layer(opaque("a", 1)), layer(dir("a", 1), file("a/b", "", 0)), "a/z0"},
		{layer(opaque("a", 1)), layer(dir("a", 1), white("a/b"), white("c")), "a/z0"},
		{layer(dir("a", 1), opaque("a/b", 1)), layer(dir("a", 1), dir("a/b", 1)), "a/b/z0"},
		{layer(dir("a", 1), dir("a/b", 1), opaque("a/b/c", 1)), layer(dir("a", 1), dir("a/b", 1), dir("a/b/c", 1)), "a/b/c/z0"},
		{layer(dir("a", 1), opaque("a/b", 1), dir("a/c", 1)), layer(dir("a", 1), dir("a/b", 1), opaque("a/c", 1)), "a/b/z0"},
		{layer(dir("a", 1), opaque("b", 1)), layer(dir("a", 1), dir("b", 1)), "b/z0"},
		{layer(opaque("a", 1), dir("a/b", 2)), layer(dir("a", 1), opaque("a/b", 2)), "a/z0"},
		{layer(opaque("a", 1), opaque("a/b", 2)), layer(dir("a", 1), opaque("a/b", 2)), "a/z0"},
	} {
		checkWitness(t, v.a, v.b, loneFile(v.path), 0)
		checkTold(t, v.a, v.b, nil)
	}
}

// zRecords returns a directory and files in it with these numbers behind their z, in order.
func zRecords(first impl.Record, numbers ...int) []impl.Record {
	l := layer(first)
	for _, n := range numbers {
		l = append(l, file(first.Path+"/z"+strconv.Itoa(n), "", 0))
	}
	slices.SortFunc(l, func(a, b impl.Record) int { return strings.Compare(orderKey(a.Path), orderKey(b.Path)) })
	return l
}

func TestPartsThatAreTaken(t *testing.T) {
	to := func(from, n int) []int {
		var list []int
		for i := range n {
			list = append(list, from+i)
		}
		return list
	}
	for _, v := range []struct {
		a, b []int
		part string
	}{
		{nil, nil, "z0"}, {to(0, 1), nil, "z1"}, {nil, to(0, 1), "z1"}, {to(0, 1), to(0, 1), "z1"}, {to(1, 1), to(0, 1), "z2"}, {to(1, 5), nil, "z0"}, {to(0, 1), to(2, 3), "z1"},
		{to(0, 3), to(3, 3), "z6"}, {to(0, 10), nil, "z10"}, {to(0, 11), to(12, 3), "z11"}, {to(0, 15), nil, "z15"}, {to(0, 15), to(0, 15), "z15"}, {to(0, 15), to(15, 15), "z30"},
	} {
		for _, path := range []string{"a", "z0"} {
			checkWitness(t, zRecords(opaque(path, 1), v.a...), zRecords(dir(path, 1), v.b...), loneFile(path+"/"+v.part), 0)
			checkTold(t, zRecords(opaque(path, 1), v.a...), zRecords(dir(path, 1), v.b...), nil)
		}
	}
}

// A record of any kind takes a part, but not one that the canonical form does not have, nor one in another place.
func TestWhatTakesAPart(t *testing.T) {
	one, all := dir("a", 1), opaque("a", 1)
	for _, r := range layer(file("a/z0", "x", 1), link("a/z0", "x"), dir("a/z0", 2), opaque("a/z0", 2)) {
		checkWitness(t, layer(all, r), layer(one), loneFile("a/z1"), 0)
		checkWitness(t, layer(all), layer(one, r), loneFile("a/z1"), 0)
		checkWitness(t, layer(all, r), layer(one, r), loneFile("a/z1"), 0)
	}
	checkWitness(t, layer(all), layer(one, white("a/z0")), loneFile("a/z1"), 0)
	checkWitness(t, layer(all, white("a/z0")), layer(one), loneFile("a/z0"), 0)
	checkWitness(t, layer(all, white("a/z0")), layer(one, white("a/z0")), loneFile("a/z1"), 0)
	checkWitness(t, layer(all, file("z0", "", 0)), layer(one, file("z0", "", 0)), loneFile("a/z0"), 0)
	checkWitness(t, layer(all, dir("a/b", 1), file("a/b/z0", "", 0)), layer(one, dir("b", 1), file("b/z0", "", 0)), loneFile("a/z0"), 0)
	checkWitness(t, layer(all, file("a/z00", "", 0), file("a/z01", "", 0)), layer(one, file("a/z", "", 0), file("a/zz0", "", 0)), loneFile("a/z0"), 0)
}

func TestPairsThatTheEmptyTreeTellsApart(t *testing.T) {
	for _, v := range [][2][]impl.Record{
		{layer(opaque("a", 1)), layer(dir("a", 2))},
		{layer(opaque("a", 1)), layer(opaque("a", 2))},
		{layer(dir("a", 0)), layer(dir("a", 1))},
		{layer(file("a", "1", 0)), layer(file("a", "2", 0))},
		{layer(file("a", "", 0)), layer(file("a", "", 1))},
		{layer(link("a", "1")), layer(link("a", "2"))},
		{layer(link("a", "1")), layer(file("a", "1", 0))},
		{layer(file("a", "", 0)), layer(dir("a", 0))},
		{layer(file("a", "", 0)), layer(opaque("a", 0))},
		{layer(file("a", "", 0)), nil},
		{layer(dir("a", 0)), nil},
		{layer(opaque("a", 0)), nil},
		{layer(file("a", "", 0), white("b")), layer(white("b"))},
		{layer(dir("a", 1), file("a/b", "", 0)), layer(dir("a", 1))},
		{layer(opaque("a", 1), file("a/b", "", 0)), layer(opaque("a", 1))},
		{layer(dir("a", 1), opaque("b", 1)), layer(dir("a", 2), dir("b", 1))},
		{layer(dir("a", 1), white("b")), layer(dir("a", 2))},
	} {
		checkWitness(t, v[0], v[1], nil, 0)
		checkTold(t, v[0], v[1], nil)
	}
}

// The first path in the order of PathLess decides, whatever follows it.
func TestTheFirstDifferenceDecides(t *testing.T) {
	checkWitness(t, layer(white("a"), opaque("b", 1)), layer(dir("b", 1)), loneFile("a"), 0)
	checkWitness(t, layer(opaque("b", 1), white("c")), layer(dir("b", 1)), loneFile("b/z0"), 0)
	checkWitness(t, layer(file("a", "", 0), opaque("b", 1)), layer(dir("b", 1), white("c")), nil, 0)
	checkWitness(t, layer(dir("a", 1), white("a/x"), white("a!")), layer(dir("a", 1), file("a!", "", 0)), loneFile("a/x"), 0)
	checkWitness(t, layer(dir("a", 1), file("a/x", "", 0), white("a!")), layer(dir("a", 1)), nil, 0)
	checkWitness(t, layer(dir("a", 1), dir("a/b", 1), white("a/b/x")), layer(dir("a", 1), dir("a/b", 1), file("a/b.", "", 0)), loneFile("a/b/x"), 0)
	checkWitness(t, layer(white("b")), layer(file("a", "", 0)), nil, 0)
	checkWitness(t, layer(white("a")), layer(file("b", "", 0)), loneFile("a"), 0)
}

// ErrBad precedes ErrSame, and ErrLong precedes both, whichever layer it is.
func TestListsThatHaveNoWitness(t *testing.T) {
	long := make([]impl.Record, impl.MaxList+1)
	copy(long, whites(16))
	for _, bad := range notLayers() {
		for _, other := range append(notLayers(), nil, whites(16), layer(dir("a", 0))) {
			checkWitness(t, bad, other, nil, impl.ErrBad)
		}
		checkWitness(t, bad, bad, nil, impl.ErrBad)
		checkWitness(t, bad, long, nil, impl.ErrLong)
	}
	for _, other := range [][]impl.Record{nil, whites(16), long, make([]impl.Record, impl.MaxList), make([]impl.Record, impl.MaxList+100)} {
		checkWitness(t, long, other, nil, impl.ErrLong)
	}
	checkWitness(t, make([]impl.Record, impl.MaxList), nil, nil, impl.ErrBad)
}
