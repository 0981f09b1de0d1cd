package tests

import (
	"math"
	"strings"
	"testing"

	"loop.example/g00798/impl"
)

const (
	body20 = "a body of 20 bytes.."
	body21 = "a body of 21 bytes..."
)

// faultByRule follows the wording of chapter 3, in another way than the program does.
func faultByRule(r impl.Record) int {
	file, link, dir, white := r.Kind == 1, r.Kind == 2, r.Kind == 3, r.Kind == 4
	for _, rule := range []struct {
		applies bool
		code    int
	}{
		{!file && !link && !dir && !white, impl.ErrKind},
		{!pathByRule(r.Path), impl.ErrName},
		{len(r.Body) > 20 || link && r.Body == "", impl.ErrSize},
		{(dir || white) && r.Body != "" || !dir && r.Opaque, impl.ErrForm},
		{r.Mode < 0 || r.Mode > 511 || (link || white) && r.Mode != 0, impl.ErrRange},
	} {
		if rule.applies {
			return rule.code
		}
	}
	return 0
}

// The values on both sides of every limit of chapter 3.
func edgeKinds() []int {
	return []int{0, 1, 2, 3, 4, 5, -1, -3, 6, 256 + 3, 1<<32 + 1, math.MinInt, math.MaxInt}
}

func edgePaths() []string {
	return append(notPaths(), "a", "a/b", "a/b/c/d", "...", "longname/longname/longname/longname")
}

func edgeBodies() []string {
	return []string{"", "x", "\x00", " ", "..", "\xff", body20, body21, strings.Repeat("é", 10), strings.Repeat("é", 11),
		strings.Repeat("x", 256), strings.Repeat("x", 256+20), strings.Repeat("x", impl.MaxText)}
}

func edgeModes() []int {
	return []int{-1, 0, 1, 420, 510, 511, 512, -512, 1 << 32, 1<<32 + 1, math.MinInt, math.MaxInt}
}

func checkRecord(t *testing.T, r impl.Record, want int) {
	t.Helper()
	if got := impl.RecordFault(r); got != want {
		t.Errorf("RecordFault(%.200q) = %d, want %d", []any{r}, got, want)
	}
	if got := impl.RecordOK(r); got != (want == 0) {
		t.Errorf("RecordOK(%.200q) = %v", []any{r}, got)
	}
}

func checkMade(t *testing.T, name string, got impl.Record, code int, want impl.Record, wantCode int) {
	t.Helper()
	if wantCode != 0 {
		want = impl.Record{}
	}
	if got != want || code != wantCode {
		t.Errorf("%s returns %.200q and %d, want %.200q and %d", name, []any{got}, code, []any{want}, wantCode)
	}
}

func TestConstantsOfRecords(t *testing.T) {
	if impl.KindFile != 1 || impl.KindLink != 2 || impl.KindDir != 3 || impl.KindWhite != 4 || impl.MaxBody != 20 || impl.MaxMode != 511 {
		t.Error("a constant differs from the document")
	}
	if len(body20) != 20 || len(body21) != 21 {
		t.Error("a body of this test has another length than its name says")
	}
}

func TestValidRecords(t *testing.T) {
	for _, r := range []impl.Record{
		{Kind: impl.KindFile, Path: "a"},
		{Kind: impl.KindFile, Path: "a/b/c/d", Body: "x", Mode: 420},
		{Kind: impl.KindFile, Path: "a", Body: body20, Mode: 511},
		{Kind: impl.KindFile, Path: "a", Body: "\x00\n\xff", Mode: 1},
		{Kind: impl.KindLink, Path: "a", Body: "x"},
		{Kind: impl.KindLink, Path: "a/b", Body: "../not a path"},
		{Kind: impl.KindLink, Path: "a", Body: body20},
		{Kind: impl.KindDir, Path: "a"},
		{Kind: impl.KindDir, Path: "a", Mode: 511},
		{Kind: impl.KindDir, Path: "a", Opaque: true},
		{Kind: impl.KindDir, Path: "a/b/c/d", Mode: 1, Opaque: true},
		{Kind: impl.KindWhite, Path: "a"},
		{Kind: impl.KindWhite, Path: "a/b/c/d"},
	} {
		checkRecord(t, r, 0)
	}
}

func TestRecordsWithOneError(t *testing.T) {
	for _, v := range []struct {
		r    impl.Record
		code int
	}{
		{impl.Record{Kind: 0, Path: "a"}, impl.ErrKind},
		{impl.Record{Kind: 5, Path: "a"}, impl.ErrKind},
		{impl.Record{Kind: -1, Path: "a"}, impl.ErrKind},
		{impl.Record{Kind: math.MinInt, Path: "a"}, impl.ErrKind},
		{impl.Record{Kind: math.MaxInt, Path: "a"}, impl.ErrKind},
		{impl.Record{Kind: impl.KindFile, Path: ""}, impl.ErrName},
		{impl.Record{Kind: impl.KindLink, Path: "a/", Body: "x"}, impl.ErrName},
		{impl.Record{Kind: impl.KindDir, Path: "a/b/c/d/e"}, impl.ErrName},
		{impl.Record{Kind: impl.KindWhite, Path: ".."}, impl.ErrName},
		{impl.Record{Kind: impl.KindFile, Path: "a", Body: body21}, impl.ErrSize},
		{impl.Record{Kind: impl.KindLink, Path: "a", Body: body21}, impl.ErrSize},
		{impl.Record{Kind: impl.KindLink, Path: "a"}, impl.ErrSize},
		{impl.Record{Kind: impl.KindDir, Path: "a", Body: "x"}, impl.ErrForm},
		{impl.Record{Kind: impl.KindDir, Path: "a", Body: "x", Opaque: true}, impl.ErrForm},
		{impl.Record{Kind: impl.KindWhite, Path: "a", Body: "x"}, impl.ErrForm},
		{impl.Record{Kind: impl.KindFile, Path: "a", Opaque: true}, impl.ErrForm},
		{impl.Record{Kind: impl.KindLink, Path: "a", Body: "x", Opaque: true}, impl.ErrForm},
		{impl.Record{Kind: impl.KindWhite, Path: "a", Opaque: true}, impl.ErrForm},
		{impl.Record{Kind: impl.KindFile, Path: "a", Mode: -1}, impl.ErrRange},
		{impl.Record{Kind: impl.KindFile, Path: "a", Mode: 512}, impl.ErrRange},
		{impl.Record{Kind: impl.KindDir, Path: "a", Mode: -1}, impl.ErrRange},
		{impl.Record{Kind: impl.KindDir, Path: "a", Mode: 512, Opaque: true}, impl.ErrRange},
		{impl.Record{Kind: impl.KindLink, Path: "a", Body: "x", Mode: 1}, impl.ErrRange},
		{impl.Record{Kind: impl.KindLink, Path: "a", Body: "x", Mode: -1}, impl.ErrRange},
		{impl.Record{Kind: impl.KindWhite, Path: "a", Mode: 511}, impl.ErrRange},
		{impl.Record{Kind: impl.KindWhite, Path: "a", Mode: math.MinInt}, impl.ErrRange},
	} {
		checkRecord(t, v.r, v.code)
	}
}

func TestTheFirstOfSeveralErrors(t *testing.T) {
	for _, v := range []struct {
		r    impl.Record
		code int
	}{
		{impl.Record{}, impl.ErrKind},
		{impl.Record{Kind: 5, Path: "/", Body: body21, Mode: -1, Opaque: true}, impl.ErrKind},
		{impl.Record{Kind: impl.KindFile, Path: "/", Body: body21, Mode: -1, Opaque: true}, impl.ErrName},
		{impl.Record{Kind: impl.KindLink, Path: "", Mode: 512, Opaque: true}, impl.ErrName},
		{impl.Record{Kind: impl.KindDir, Path: "a//b", Body: body21, Mode: 512}, impl.ErrName},
		{impl.Record{Kind: impl.KindWhite, Path: "a b", Body: "x", Mode: 1}, impl.ErrName},
		{impl.Record{Kind: impl.KindFile, Path: "a", Body: body21, Mode: 512, Opaque: true}, impl.ErrSize},
		{impl.Record{Kind: impl.KindLink, Path: "a", Mode: 1, Opaque: true}, impl.ErrSize},
		{impl.Record{Kind: impl.KindDir, Path: "a", Body: body21, Mode: -1}, impl.ErrSize},
		{impl.Record{Kind: impl.KindWhite, Path: "a", Body: body21, Mode: 1, Opaque: true}, impl.ErrSize},
		{impl.Record{Kind: impl.KindFile, Path: "a", Mode: 512, Opaque: true}, impl.ErrForm},
		{impl.Record{Kind: impl.KindLink, Path: "a", Body: "x", Mode: 1, Opaque: true}, impl.ErrForm},
		{impl.Record{Kind: impl.KindDir, Path: "a", Body: body20, Mode: -1}, impl.ErrForm},
		{impl.Record{Kind: impl.KindWhite, Path: "a", Mode: 1, Opaque: true}, impl.ErrForm},
		{impl.Record{Kind: impl.KindWhite, Path: "a", Body: "x", Mode: 512}, impl.ErrForm},
	} {
		checkRecord(t, v.r, v.code)
	}
}

func TestAllRecordsOfEdgeValues(t *testing.T) {
	seen := map[int]int{}
	for _, kind := range edgeKinds() {
		for _, path := range edgePaths() {
			for _, body := range edgeBodies() {
				for _, mode := range edgeModes() {
					for _, opaque := range []bool{false, true} {
						r := impl.Record{Kind: kind, Path: path, Body: body, Mode: mode, Opaque: opaque}
						want := faultByRule(r)
						seen[want]++
						checkRecord(t, r, want)
					}
				}
			}
		}
	}
	for _, code := range []int{impl.OK, impl.ErrKind, impl.ErrName, impl.ErrSize, impl.ErrForm, impl.ErrRange} {
		if seen[code] == 0 {
			t.Errorf("no record of this test has the code %d", code)
		}
	}
}

// The limit of MaxText is one of arguments: a string inside a record is too long only as chapter 3 says.
func TestLongStringsInsideARecord(t *testing.T) {
	for _, long := range tooLong() {
		for kind := range 6 {
			for _, r := range []impl.Record{
				{Kind: kind, Path: long, Body: long, Mode: -1, Opaque: true},
				{Kind: kind, Path: long, Body: "x"},
				{Kind: kind, Path: "a", Body: long},
			} {
				want := faultByRule(r)
				if want == impl.ErrLong || want == 0 {
					t.Fatalf("the rule of this test gives the code %d", want)
				}
				checkRecord(t, r, want)
			}
		}
	}
}

func TestMadeRecords(t *testing.T) {
	r, code := impl.MakeFile("etc/hosts", "x\x00", 420)
	checkMade(t, "MakeFile", r, code, impl.Record{Kind: 1, Path: "etc/hosts", Body: "x\x00", Mode: 420}, 0)
	r, code = impl.MakeLink("a/b", "..")
	checkMade(t, "MakeLink", r, code, impl.Record{Kind: 2, Path: "a/b", Body: ".."}, 0)
	r, code = impl.MakeDir("a", 493, false)
	checkMade(t, "MakeDir", r, code, impl.Record{Kind: 3, Path: "a", Mode: 493}, 0)
	r, code = impl.MakeDir("a", 7, true)
	checkMade(t, "MakeDir", r, code, impl.Record{Kind: 3, Path: "a", Mode: 7, Opaque: true}, 0)
	r, code = impl.MakeWhite("a/b/c/d")
	checkMade(t, "MakeWhite", r, code, impl.Record{Kind: 4, Path: "a/b/c/d"}, 0)
}

// Every argument on both sides of its limits: the record, or the first error and the zero record.
func TestRecordsAreMadeOrTheFirstErrorIsReturned(t *testing.T) {
	for _, path := range edgePaths() {
		want := impl.Record{Kind: 4, Path: path}
		r, code := impl.MakeWhite(path)
		checkMade(t, "MakeWhite", r, code, want, faultByRule(want))
		for _, body := range edgeBodies() {
			want := impl.Record{Kind: 2, Path: path, Body: body}
			r, code := impl.MakeLink(path, body)
			checkMade(t, "MakeLink", r, code, want, faultByRule(want))
			for _, mode := range edgeModes() {
				want := impl.Record{Kind: 1, Path: path, Body: body, Mode: mode}
				r, code := impl.MakeFile(path, body, mode)
				checkMade(t, "MakeFile", r, code, want, faultByRule(want))
			}
		}
		for _, mode := range edgeModes() {
			for _, opaque := range []bool{false, true} {
				want := impl.Record{Kind: 3, Path: path, Mode: mode, Opaque: opaque}
				r, code := impl.MakeDir(path, mode, opaque)
				checkMade(t, "MakeDir", r, code, want, faultByRule(want))
			}
		}
	}
}

// ErrLong precedes the codes of RecordFault, whichever argument is too long.
func TestRecordsOfStringsThatAreTooLong(t *testing.T) {
	var none impl.Record
	for _, long := range tooLong() {
		r, code := impl.MakeWhite(long)
		checkMade(t, "MakeWhite", r, code, none, impl.ErrLong)
		for _, mode := range []int{0, 512, -1} {
			r, code = impl.MakeDir(long, mode, true)
			checkMade(t, "MakeDir", r, code, none, impl.ErrLong)
			for _, other := range []string{"", "a", "/", body21, long} {
				r, code = impl.MakeFile(long, other, mode)
				checkMade(t, "MakeFile", r, code, none, impl.ErrLong)
				r, code = impl.MakeFile(other, long, mode)
				checkMade(t, "MakeFile", r, code, none, impl.ErrLong)
				r, code = impl.MakeLink(long, other)
				checkMade(t, "MakeLink", r, code, none, impl.ErrLong)
				r, code = impl.MakeLink(other, long)
				checkMade(t, "MakeLink", r, code, none, impl.ErrLong)
			}
		}
	}
}

func TestRecordsOfStringsOfMaxTextBytes(t *testing.T) {
	var none impl.Record
	full := strings.Repeat("a", impl.MaxText)
	r, code := impl.MakeFile(full, "x", 0)
	checkMade(t, "MakeFile", r, code, none, impl.ErrName)
	r, code = impl.MakeFile("a", full, 0)
	checkMade(t, "MakeFile", r, code, none, impl.ErrSize)
	r, code = impl.MakeLink(full, "")
	checkMade(t, "MakeLink", r, code, none, impl.ErrName)
	r, code = impl.MakeLink("a", full)
	checkMade(t, "MakeLink", r, code, none, impl.ErrSize)
	r, code = impl.MakeDir(full, -1, true)
	checkMade(t, "MakeDir", r, code, none, impl.ErrName)
	r, code = impl.MakeWhite(full)
	checkMade(t, "MakeWhite", r, code, none, impl.ErrName)
}
