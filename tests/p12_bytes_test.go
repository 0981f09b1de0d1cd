package tests

import (
	"encoding/binary"
	"fmt"
	"math/rand"
	"slices"
	"strings"
	"testing"

	"loop.example/g00798/impl"
)

// sumByRule adds up what each byte contributes, from the last one on: the program goes the other way.
func sumByRule(t string) int {
	sum, weight := 0, 1
	for i := len(t) - 1; i >= 0; i-- {
		sum = (sum + (int(t[i])+1)*weight) % 65521
		weight = weight * 263 % 65521
	}
	return (sum + weight) % 65521
}

// sealed returns a text with its sum behind it.
func sealed(t string) string {
	return string(binary.BigEndian.AppendUint16([]byte(t), uint16(sumByRule(t))))
}

// rawRecord writes an encoding from its parts, whatever they are.
func rawRecord(kind int, path string, mode int, body string) string {
	text := append([]byte{byte(kind), byte(len(path))}, path...)
	text = binary.BigEndian.AppendUint16(text, uint16(mode))
	return string(append(append(text, byte(len(body))), body...))
}

// rawLayer writes the encoding of records that are encoded already, with any number before them and with right sums.
func rawLayer(number int, records ...string) string {
	text := "LYR" + string([]byte{byte(number)})
	for _, r := range records {
		text += sealed(r)
	}
	return sealed(text)
}

// textOf returns the encoding of a valid record.
func textOf(r impl.Record) string {
	if r.Opaque {
		return rawRecord(5, r.Path, r.Mode, "")
	}
	return rawRecord(r.Kind, r.Path, r.Mode, r.Body)
}

func textsOf(l []impl.Record) []string {
	var texts []string
	for _, r := range l {
		texts = append(texts, textOf(r))
	}
	return texts
}

func layerText(l []impl.Record) string {
	return rawLayer(len(l), textsOf(l)...)
}

// startsOf returns the offsets at which the records of a layer begin, and the one behind the last record.
func startsOf(records []string) []int {
	starts := []int{4}
	for i, r := range records {
		starts = append(starts, starts[i]+len(r)+2)
	}
	return starts
}

// sizeByRule returns how many bytes the record at the beginning of t has: 5 beside its path and its body. It returns -1 if these are not all there.
func sizeByRule(t string) int {
	if len(t) < 2 || len(t) < 5+int(t[1]) {
		return -1
	}
	size := 5 + int(t[1]) + int(t[4+int(t[1])])
	if size > len(t) {
		return -1
	}
	return size
}

func readByRule(t string) impl.Record {
	path, rest := t[2:2+int(t[1])], t[2+int(t[1]):]
	r := impl.Record{Kind: int(t[0]), Path: path, Mode: int(rest[0])*256 + int(rest[1]), Body: rest[3:]}
	if t[0] == 5 {
		r.Kind, r.Opaque = 3, true
	}
	return r
}

func decodedByRule(t string) (impl.Record, int) {
	if len(t) > 65536 {
		return impl.Record{}, impl.ErrLong
	}
	if sizeByRule(t) != len(t) {
		return impl.Record{}, impl.ErrForm
	}
	r := readByRule(t)
	if code := faultByRule(r); code != 0 {
		return impl.Record{}, code
	}
	return r, 0
}

// layerByRule follows the sentences of chapter 10 about FirstFault.
func layerByRule(t string) ([]impl.Record, int, int) {
	if len(t) > 65536 {
		return nil, 0, impl.ErrLong
	}
	if len(t) < 4 || t[:3] != "LYR" {
		return nil, 0, impl.ErrForm
	}
	var l []impl.Record
	at := 4
	for i := range int(t[3]) {
		size := sizeByRule(t[at:])
		if size < 0 || at+size+2 > len(t) {
			return nil, at, impl.ErrForm
		}
		text := t[at : at+size]
		if t[at:at+size+2] != sealed(text) {
			return nil, at, impl.ErrSum
		}
		l = append(l, readByRule(text))
		if index, code := layerFaultByRule(l); code != 0 && index == i {
			return nil, at, code
		}
		at += size + 2
	}
	if len(t) != at+2 {
		return nil, at, impl.ErrForm
	}
	if t != sealed(t[:at]) {
		return nil, at, impl.ErrSum
	}
	return l, 0, 0
}

func showText(t string) string {
	return fmt.Sprintf("%.300q (%d bytes)", t, len(t))
}

func checkSum(t *testing.T, text string, want, wantCode int) {
	t.Helper()
	if got, code := impl.LayerSum(text); got != want || code != wantCode {
		t.Errorf("LayerSum(%s) = %d, %d, want %d, %d", showText(text), got, code, want, wantCode)
	}
}

func checkEncodedRecord(t *testing.T, r impl.Record, want string, wantCode int) {
	t.Helper()
	if got, code := impl.EncodeRecord(r); got != want || code != wantCode {
		t.Errorf("EncodeRecord(%s) = %s, %d, want %s, %d", show(layer(r)), showText(got), code, showText(want), wantCode)
	}
}

func checkDecodedRecord(t *testing.T, text string, want impl.Record, wantCode int) {
	t.Helper()
	if got, code := impl.DecodeRecord(text); got != want || code != wantCode {
		t.Errorf("DecodeRecord(%s) = %s, %d, want %s, %d", showText(text), show(layer(got)), code, show(layer(want)), wantCode)
	}
}

func checkEncodedLayer(t *testing.T, l []impl.Record, want string, wantCode int) {
	t.Helper()
	if got, code := impl.EncodeLayer(l); got != want || code != wantCode {
		t.Errorf("EncodeLayer(%s) = %s, %d, want %s, %d", show(l), showText(got), code, showText(want), wantCode)
	}
}

func checkDecodedLayer(t *testing.T, text string, want []impl.Record, at, wantCode int) {
	t.Helper()
	if got, code := impl.DecodeLayer(text); !slices.Equal(got, want) || code != wantCode {
		t.Errorf("DecodeLayer(%s) = %s, %d, want %s, %d", showText(text), show(got), code, show(want), wantCode)
	}
	if got, code := impl.FirstFault(text); got != at || code != wantCode {
		t.Errorf("FirstFault(%s) = %d, %d, want %d, %d", showText(text), got, code, at, wantCode)
	}
}

func checkTextFault(t *testing.T, text string, at, code int) {
	t.Helper()
	checkDecodedLayer(t, text, nil, at, code)
}

// checkRecordText compares DecodeRecord with the document's sentence; what it accepts is the encoding that EncodeRecord yields.
func checkRecordText(t *testing.T, text string) int {
	t.Helper()
	r, code := decodedByRule(text)
	checkDecodedRecord(t, text, r, code)
	if code == 0 {
		checkEncodedRecord(t, r, text, 0)
	}
	return code
}

// checkLayerText does the same for FirstFault and DecodeLayer.
func checkLayerText(t *testing.T, text string) int {
	t.Helper()
	l, at, code := layerByRule(text)
	checkDecodedLayer(t, text, l, at, code)
	if code == 0 {
		checkEncodedLayer(t, l, text, 0)
	}
	return code
}

func checkSeen(t *testing.T, seen map[int]int, codes ...int) {
	t.Helper()
	for _, code := range codes {
		if seen[code] == 0 {
			t.Errorf("no text of this test has the code %d: %v", code, seen)
		}
	}
}

// fullRecords have paths and bodies of the greatest length, or of none, and the greatest and least modes of one and two bytes.
func fullRecords() []impl.Record {
	const path35 = "longname/longnam2/longnam3/longnam4"
	return layer(file("a", "", 0), file(path35, body20, 511), file("a/b", "\x00\xff\x80\n ", 255), file("a", "é", 256), file("a", "\x00", 257),
		link("a", "."), link(path35, strings.Repeat("\xff", 20)), link("~/!", "LYR"), dir("a", 0), dir(path35, 511), dir("a", 256), dir("a", 255),
		opaque("a", 0), opaque(path35, 511), opaque("a", 256), opaque("a/b", 1), white("a"), white(path35), white("..."))
}

func TestSums(t *testing.T) {
	for text, want := range map[string]int{
		"": 1, "\x00": 264, "\xff": 519, "a": 361, "\x00\x00": 3912, "abc": 32645, "ba": 29783, "cab": 39677, "\xff\xff\xff": 60787,
		"LYR": 19174, "LYR\x00": 63167, strings.Repeat("\x00", 16): 52118,
	} {
		checkSum(t, text, want, 0)
		if got := sumByRule(text); got != want {
			t.Fatalf("the rule of this test gives the sum %d for %q, want %d", got, text, want)
		}
	}
	for b := range 256 {
		checkSum(t, string([]byte{byte(b)}), 264+b, 0)
	}
	for _, text := range stringsOver("\x00a\xff", 6) {
		checkSum(t, text, sumByRule(text), 0)
	}
}

// Also sums of which one byte is 0, and of texts of all lengths.
func TestSumsOfLongTexts(t *testing.T) {
	random := rand.New(rand.NewSource(12))
	text := make([]byte, impl.MaxText)
	random.Read(text)
	small := 0
	for n := 0; n < 4000; n++ {
		want := sumByRule(string(text[:n]))
		checkSum(t, string(text[:n]), want, 0)
		if want < 256 {
			small++
		}
	}
	if small == 0 {
		t.Error("no sum of this test has one byte")
	}
	for _, whole := range []string{string(text), strings.Repeat("\xff", impl.MaxText), strings.Repeat("\x00", impl.MaxText)} {
		checkSum(t, whole, sumByRule(whole), 0)
		checkSum(t, whole[1:], sumByRule(whole[1:]), 0)
		checkSum(t, whole+"\x00", 0, impl.ErrLong)
	}
	for _, long := range tooLong() {
		checkSum(t, long, 0, impl.ErrLong)
	}
}

func TestEncodedRecords(t *testing.T) {
	for _, v := range []struct {
		r    impl.Record
		text string
	}{
		{file("a", "", 0), "\x01\x01a\x00\x00\x00"},
		{file("a", "", 511), "\x01\x01a\x01\xff\x00"},
		{file("a/b", "hi", 420), "\x01\x03a/b\x01\xa4\x02hi"},
		{file("a.b", "\x00\xff\n", 255), "\x01\x03a.b\x00\xff\x03\x00\xff\n"},
		{file("a", "x", 256), "\x01\x01a\x01\x00\x01x"},
		{file("longname/longname/longname/longname", body20, 1), "\x01\x23longname/longname/longname/longname\x00\x01\x14a body of 20 bytes.."},
		{link("a", "x"), "\x02\x01a\x00\x00\x01x"},
		{link("etc/mtab", "../m"), "\x02\x08etc/mtab\x00\x00\x04../m"},
		{dir("z", 511), "\x03\x01z\x01\xff\x00"},
		{dir("a/b/c/d", 0), "\x03\x07a/b/c/d\x00\x00\x00"},
		{white("z"), "\x04\x01z\x00\x00\x00"},
		{white("a/..."), "\x04\x05a/...\x00\x00\x00"},
		{opaque("a", 1), "\x05\x01a\x00\x01\x00"},
		{opaque("a/b/c/d", 511), "\x05\x07a/b/c/d\x01\xff\x00"},
	} {
		checkEncodedRecord(t, v.r, v.text, 0)
		checkDecodedRecord(t, v.text, v.r, 0)
		if got := textOf(v.r); got != v.text {
			t.Errorf("the rule of this test encodes %s as %q", show(layer(v.r)), got)
		}
	}
}

func TestRecordsAreRecovered(t *testing.T) {
	kinds := map[int]int{}
	records := append(slices.Concat(someLayers(100)...), fullRecords()...)
	for _, kind := range edgeKinds() {
		for _, path := range append(edgePaths(), strings.Repeat("a", 257), strings.Repeat("a/", 128)+"b") {
			for _, body := range edgeBodies() {
				for _, mode := range append(edgeModes(), 2, 255, 256, 1<<16, 1<<16+1) {
					r := impl.Record{Kind: kind, Path: path, Body: body, Mode: mode}
					records = append(records, r)
					r.Opaque = true
					records = append(records, r)
				}
			}
		}
	}
	for _, r := range records {
		if faultByRule(r) != 0 {
			checkEncodedRecord(t, r, "", impl.ErrBad)
			continue
		}
		kinds[int(textOf(r)[0])]++
		checkEncodedRecord(t, r, textOf(r), 0)
		checkDecodedRecord(t, textOf(r), r, 0)
	}
	checkSeen(t, kinds, 1, 2, 3, 4, 5)
}

func TestEveryByteOfABodyAndEveryModeIsRecovered(t *testing.T) {
	for b := range 256 {
		c := string([]byte{byte(b)})
		for _, r := range layer(file("a", c, 0), link("a", c), file("a/b", "x"+c, 7), link("a/b", c+c+c)) {
			checkEncodedRecord(t, r, textOf(r), 0)
			checkDecodedRecord(t, textOf(r), r, 0)
		}
		checkRecordText(t, rawRecord(4, c, 0, ""))
		checkRecordText(t, rawRecord(1, "a"+c+"b", 0, c))
	}
	for mode := range impl.MaxMode + 1 {
		for _, r := range layer(file("a", "x", mode), dir("a", mode), opaque("a", mode)) {
			checkEncodedRecord(t, r, textOf(r), 0)
			checkDecodedRecord(t, textOf(r), r, 0)
		}
	}
}

// What is behind a record, or missing at its end, is ErrForm, whatever the bytes are.
func TestRecordTextsCutOffAndLengthened(t *testing.T) {
	for _, r := range fullRecords() {
		text := textOf(r)
		for n := range len(text) {
			checkDecodedRecord(t, text[:n], impl.Record{}, impl.ErrForm)
			checkRecordText(t, text[n:])
			checkRecordText(t, text[:n]+text[n+1:])
			checkRecordText(t, text[:n]+"\x00"+text[n:])
		}
		for b := range 256 {
			checkDecodedRecord(t, text+string([]byte{byte(b)}), impl.Record{}, impl.ErrForm)
		}
		for _, more := range []string{"\x00\x00", text, sealed(text)[len(text):], strings.Repeat("a", 255), strings.Repeat("\x00", impl.MaxText-len(text))} {
			checkDecodedRecord(t, text+more, impl.Record{}, impl.ErrForm)
		}
	}
}

func TestRecordTextsWithOneChangedByte(t *testing.T) {
	seen := map[int]int{}
	for _, r := range fullRecords() {
		text := []byte(textOf(r))
		for i, b := range text {
			for other := range 256 {
				text[i] = byte(other)
				seen[checkRecordText(t, string(text))]++
			}
			text[i] = b
		}
	}
	checkSeen(t, seen, impl.OK, impl.ErrForm, impl.ErrKind, impl.ErrName, impl.ErrSize, impl.ErrRange)
}

func TestPathsAndBodiesOfEveryLengthOfOneByte(t *testing.T) {
	for n := range 256 {
		long := strings.Repeat("a", n)
		for _, text := range []string{rawRecord(1, long, 1, ""), rawRecord(1, long, 1, "x"), rawRecord(1, "a", 1, long), rawRecord(2, long, 0, long), rawRecord(3, long, 512, long)} {
			checkRecordText(t, text)
			checkRecordText(t, text+"x")
			checkRecordText(t, text[:len(text)-1])
			checkLayerText(t, rawLayer(1, text))
			checkLayerText(t, rawLayer(2, text[:len(text)-1]))
		}
	}
}

func TestAllShortRecordTexts(t *testing.T) {
	seen := map[int]int{}
	for _, text := range stringsOver("\x00\x01\x02\x05a", 7) {
		seen[checkRecordText(t, text)]++
	}
	checkSeen(t, seen, impl.OK, impl.ErrForm, impl.ErrKind, impl.ErrName, impl.ErrSize, impl.ErrRange)
}

func TestRecordTextsWithOneError(t *testing.T) {
	for _, v := range []struct {
		text string
		code int
	}{
		{"", impl.ErrForm},
		{"\x01", impl.ErrForm},
		{"\x01\x00", impl.ErrForm},
		{"\x01\x00\x00\x00", impl.ErrForm},
		{"\x01\x01a\x00\x00", impl.ErrForm},
		{"\x01\x02a\x00\x00\x00", impl.ErrForm},
		{"\x01\x00a\x00\x00\x00", impl.ErrForm},
		{"\x01\x01a\x00\x00\x01", impl.ErrForm},
		{"\x01\x01a\x00\x00\x00x", impl.ErrForm},
		{"\x01\x01a\x00\x00\x01xy", impl.ErrForm},
		{"\x01\xffa\x00\x00\x00", impl.ErrForm},
		{"\x01\x01a\x00\x00\xff", impl.ErrForm},
		{rawRecord(0, "a", 0, ""), impl.ErrKind},
		{rawRecord(6, "a", 0, ""), impl.ErrKind},
		{rawRecord(255, "a", 0, ""), impl.ErrKind},
		{rawRecord(128+3, "a", 0, ""), impl.ErrKind},
		{rawRecord(1, "", 0, ""), impl.ErrName},
		{rawRecord(5, "", 0, ""), impl.ErrName},
		{rawRecord(4, "a/", 0, ""), impl.ErrName},
		{rawRecord(4, "longname/longname/longname/longname1", 0, ""), impl.ErrName},
		{rawRecord(3, strings.Repeat("a", 255), 0, ""), impl.ErrName},
		{rawRecord(1, "a", 0, body21), impl.ErrSize},
		{rawRecord(1, "a", 0, strings.Repeat("x", 255)), impl.ErrSize},
		{rawRecord(2, "a", 0, body21), impl.ErrSize},
		{rawRecord(2, "a", 0, ""), impl.ErrSize},
		{rawRecord(3, "a", 0, body21), impl.ErrSize},
		{rawRecord(5, "a", 0, body21), impl.ErrSize},
		{rawRecord(3, "a", 0, "x"), impl.ErrForm},
		{rawRecord(5, "a", 0, "x"), impl.ErrForm},
		{rawRecord(4, "a", 0, "x"), impl.ErrForm},
		{rawRecord(1, "a", 512, ""), impl.ErrRange},
		{rawRecord(1, "a", 65535, ""), impl.ErrRange},
		{rawRecord(3, "a", 512, ""), impl.ErrRange},
		{rawRecord(5, "a", 65535, ""), impl.ErrRange},
		{rawRecord(2, "a", 1, "x"), impl.ErrRange},
		{rawRecord(2, "a", 256, "x"), impl.ErrRange},
		{rawRecord(4, "a", 1, ""), impl.ErrRange},
		{rawRecord(4, "a", 256, ""), impl.ErrRange},
	} {
		checkDecodedRecord(t, v.text, impl.Record{}, v.code)
	}
	for kind := range 256 {
		code := 0
		if kind == 0 || kind > 5 {
			code = impl.ErrKind
		} else if kind == 2 {
			code = impl.ErrSize
		}
		if got := checkRecordText(t, rawRecord(kind, "a", 0, "")); got != code {
			t.Errorf("the code of a record of kind %d is %d", kind, got)
		}
	}
}

// ErrForm for the text as a whole precedes the code of the record, which is the first one of chapter 3.
func TestRecordTextsWithSeveralErrors(t *testing.T) {
	for _, v := range []struct {
		text string
		code int
	}{
		{rawRecord(0, "", 512, body21), impl.ErrKind},
		{rawRecord(6, "/", 65535, "x"), impl.ErrKind},
		{rawRecord(1, "", 512, body21), impl.ErrName},
		{rawRecord(2, "/", 512, ""), impl.ErrName},
		{rawRecord(5, "a b", 512, "x"), impl.ErrName},
		{rawRecord(1, "a", 512, body21), impl.ErrSize},
		{rawRecord(2, "a", 1, ""), impl.ErrSize},
		{rawRecord(5, "a", 512, body21), impl.ErrSize},
		{rawRecord(3, "a", 512, "x"), impl.ErrForm},
		{rawRecord(4, "a", 1, "x"), impl.ErrForm},
		{rawRecord(5, "a", 65535, "x"), impl.ErrForm},
	} {
		checkDecodedRecord(t, v.text, impl.Record{}, v.code)
		checkDecodedRecord(t, v.text+"\x00", impl.Record{}, impl.ErrForm)
		checkDecodedRecord(t, v.text[:len(v.text)-1], impl.Record{}, impl.ErrForm)
	}
}

func TestRecordTextsThatAreTooLong(t *testing.T) {
	whole := textOf(file("a", "x", 1))
	texts := append(tooLong(), whole+strings.Repeat("\x00", impl.MaxText+1-len(whole)), strings.Repeat("\x00", impl.MaxText+1), strings.Repeat(whole, impl.MaxText))
	for _, long := range texts {
		checkDecodedRecord(t, long, impl.Record{}, impl.ErrLong)
		checkDecodedRecord(t, long[:impl.MaxText], impl.Record{}, impl.ErrForm)
	}
}

func TestEncodedLayers(t *testing.T) {
	for _, v := range []struct {
		l    []impl.Record
		text string
	}{
		{nil, "LYR\x00\xf6\xbf"},
		{layer(), "LYR\x00\xf6\xbf"},
		{layer(white("a")), "LYR\x01\x04\x01a\x00\x00\x002\xe9\xa4V"},
		{layer(file("a", "\xff\x00", 256)), "LYR\x01\x01\x01a\x01\x00\x02\xff\x00\xe5A\x9a\x19"},
		{layer(opaque("a", 1), file("a/b", "hi", 420)), "LYR\x02\x05\x01a\x00\x01\x00\xdd\xd7\x01\x03a/b\x01\xa4\x02hi\x33\x8e\xb9\x9d"},
		{layer(dir("etc", 493), file("etc/motd", "hi\n", 420), link("etc/mtab", "../m"), white("etc/x"), opaque("usr", 511)),
			"LYR\x05\x03\x03etc\x01\xed\x00\x1d~\x01\x08etc/motd\x01\xa4\x03hi\x0a6\x9c\x02\x08etc/mtab\x00\x00\x04../m\x9e\x83\x04\x05etc/x\x00\x00\x00$\xc2\x05\x03usr\x01\xff\x00\xab\x86\xbb'"},
	} {
		checkEncodedLayer(t, v.l, v.text, 0)
		checkDecodedLayer(t, v.text, v.l, 0, 0)
		if got := layerText(v.l); got != v.text {
			t.Errorf("the rule of this test encodes %s as %q", show(v.l), got)
		}
	}
}

// largeLayer has 16 records with the longest paths and bodies, in three directories.
func largeLayer() []impl.Record {
	l := dirsTo("aaaaaaaa/bbbbbbbb/cccccccc", 511)
	for i := range 13 {
		l = append(l, file("aaaaaaaa/bbbbbbbb/cccccccc/ddddddd"+string([]byte{byte('a' + i)}), strings.Repeat("\xff", 20), 511))
	}
	return l
}

// A layer is recovered as it is, also where it is not canonical.
func TestLayersAreRecovered(t *testing.T) {
	layers := append(append(someLayers(300), chainLayers()...), largeLayer(), layer(opaque("a", 1), white("a/b"), opaque("a/c", 1)))
	for n := range 17 {
		layers = append(layers, whites(n), filesAt("p", n))
	}
	sizes := map[int]int{}
	texts := map[string]bool{}
	for _, l := range layers {
		sizes[len(l)]++
		checkEncodedLayer(t, l, layerText(l), 0)
		checkDecodedLayer(t, layerText(l), l, 0, 0)
		texts[layerText(l)] = true
	}
	for n := range 17 {
		if sizes[n] < 2 {
			t.Errorf("this test has only %d layers of %d records", sizes[n], n)
		}
	}
	if len(texts) < 300 {
		t.Errorf("this test has only %d texts", len(texts))
	}
}

// textLayers are n random layers, and a few small ones, of which the texts are changed.
func textLayers(n int) [][]impl.Record {
	return append(someLayers(n), nil, layer(white("a")), whites(2), whites(16), layer(opaque("a", 1), file("a/b", "hi", 420)), layer(opaque("a", 511), white("a/b"), link("a/c", "LYR"), dir("b", 0)))
}

// What is cut off is missing in one record, in a sum, or behind the last record: ErrForm at the beginning of that.
func TestLayerTextsCutOff(t *testing.T) {
	for _, l := range append(textLayers(12), largeLayer()) {
		text, starts := layerText(l), startsOf(textsOf(l))
		for n := range len(text) {
			at := 0
			for _, start := range starts {
				if start <= n {
					at = start
				}
			}
			checkTextFault(t, text[:n], at, impl.ErrForm)
		}
		for n := range starts[len(starts)-1] {
			checkLayerText(t, sealed(text[:n]))
			checkLayerText(t, text[n:])
		}
	}
}

func TestLayerTextsLengthened(t *testing.T) {
	for _, l := range append(textLayers(12), largeLayer()) {
		text, starts := layerText(l), startsOf(textsOf(l))
		end := starts[len(starts)-1]
		for b := range 256 {
			checkTextFault(t, text+string([]byte{byte(b)}), end, impl.ErrForm)
		}
		for _, more := range []string{"\x00\x00", "LYR", text, text[len(text)-2:], sealed(text)[len(text):], sealed(textOf(white("~"))), strings.Repeat("\x00", 300)} {
			checkTextFault(t, text+more, end, impl.ErrForm)
			checkTextFault(t, sealed(text+more), end, impl.ErrForm)
			checkTextFault(t, sealed(text[:end]+more), end, impl.ErrForm)
		}
	}
}

// A changed byte changes the sum of the whole, so that none of these texts is accepted, whatever is found first.
func TestLayerTextsWithOneChangedByte(t *testing.T) {
	seen := map[int]int{}
	for _, l := range textLayers(4) {
		text := []byte(layerText(l))
		for i, b := range text {
			for other := range 256 {
				text[i] = byte(other)
				code := checkLayerText(t, string(text))
				seen[code]++
				if (code == 0) != (byte(other) == b) {
					t.Errorf("the layer %s with the byte %d changed to %d has the code %d", show(l), i, other, code)
				}
			}
			text[i] = b
		}
	}
	checkSeen(t, seen, impl.OK, impl.ErrForm, impl.ErrSum)
}

// With right sums, changed records are accepted or have the code of LayerFault.
func TestLayersWithOneChangedByteAndRightSums(t *testing.T) {
	seen := map[int]int{}
	for _, l := range textLayers(12) {
		texts := textsOf(l)
		for i, text := range texts {
			for k := range len(text) {
				for _, other := range []byte{0, 1, 2, 3, 4, 5, 6, 21, '/', 'a', 'b', 'c', '~', 127, 255, text[k] - 1, text[k] + 1} {
					texts[i] = text[:k] + string([]byte{other}) + text[k+1:]
					seen[checkLayerText(t, rawLayer(len(texts), texts...))]++
				}
			}
			texts[i] = text
		}
	}
	checkSeen(t, seen, impl.OK, impl.ErrForm, impl.ErrSum, impl.ErrKind, impl.ErrName, impl.ErrSize, impl.ErrRange, impl.ErrSame, impl.ErrOrder, impl.ErrOrphan, impl.ErrNotDir)
}

// The records of a layer in any other order, some of them left out or repeated, with right sums.
func TestSomeListsOfRecordsWithRightSums(t *testing.T) {
	random := rand.New(rand.NewSource(13))
	pool := append(slices.Concat(someLayers(20)...), fullRecords()...)
	invalid := []string{rawRecord(0, "a", 0, ""), rawRecord(6, "b", 0, ""), rawRecord(255, "", 0, ""), rawRecord(1, "", 0, ""), rawRecord(2, "c", 0, ""), rawRecord(5, "a", 0, "x"), rawRecord(4, "a", 256, "")}
	seen := map[int]int{}
	for range 3000 {
		l := pool[random.Intn(20):][:random.Intn(18)]
		texts := textsOf(l)
		for range random.Intn(3) {
			i, k := random.Intn(len(texts)+1), random.Intn(len(pool))
			texts = slices.Insert(texts, i, append(invalid, textOf(pool[k]), textOf(pool[k]))[random.Intn(len(invalid)+2)])
		}
		number := len(texts)
		if random.Intn(8) == 0 {
			number = random.Intn(20)
		}
		text := rawLayer(number, texts...)
		seen[checkLayerText(t, text)]++
		if random.Intn(2) == 0 {
			i := random.Intn(len(text))
			checkLayerText(t, text[:i]+string([]byte{byte(random.Intn(256))})+text[i+1:])
			checkLayerText(t, text[:i]+text[i+1:])
			checkLayerText(t, text[:i])
		}
	}
	checkSeen(t, seen, impl.OK, impl.ErrForm, impl.ErrKind, impl.ErrName, impl.ErrSame, impl.ErrOrder, impl.ErrOrphan)
}

func TestHeadsOfLayerTexts(t *testing.T) {
	rest := layerText(whites(3))[3:]
	for _, head := range []string{"", "L", "LY", "LYS", "lyr", "LYr", "RYL", "LRY", "\x00LYR", " LYR", "LYLYR", "\xff\xff\xff", "LY\x00"} {
		checkTextFault(t, head, 0, impl.ErrForm)
		checkTextFault(t, head+rest, 0, impl.ErrForm)
		checkTextFault(t, sealed(head+rest[:len(rest)-2]), 0, impl.ErrForm)
	}
	checkTextFault(t, "LYR", 0, impl.ErrForm)
	checkTextFault(t, "LYR\x00", 4, impl.ErrForm)
	checkTextFault(t, "LYR\x01", 4, impl.ErrForm)
	checkTextFault(t, "LYR\xff", 4, impl.ErrForm)
	checkTextFault(t, "LYR\x00\xf6", 4, impl.ErrForm)
	checkTextFault(t, "LYR\x00\xbf\xf6", 4, impl.ErrSum)
	checkTextFault(t, "LYR\x00\xf6\xbe", 4, impl.ErrSum)
	checkTextFault(t, "LYR\x00\xf6\xbf\x00", 4, impl.ErrForm)
	checkTextFault(t, "LYR\x01\xf6\xbf", 4, impl.ErrForm)
	for _, text := range stringsOver("LYR\x00", 5) {
		checkLayerText(t, text)
	}
}

// Too small a number leaves more than two bytes behind the last record, and too large a number leaves too few for another record.
func TestWrongNumbersOfRecords(t *testing.T) {
	for _, l := range append(textLayers(12), largeLayer(), whites(15)) {
		texts := textsOf(l)
		starts := startsOf(texts)
		for number := range 256 {
			if number == len(l) {
				checkDecodedLayer(t, rawLayer(number, texts...), l, 0, 0)
			} else {
				checkTextFault(t, rawLayer(number, texts...), starts[min(number, len(l))], impl.ErrForm)
			}
		}
	}
}

func TestWrongSums(t *testing.T) {
	for _, l := range append(textLayers(12), largeLayer()) {
		text, starts := layerText(l), startsOf(textsOf(l))
		end := starts[len(starts)-1]
		for _, change := range []byte{1, 2, 128, 255} {
			for i := range l {
				for _, k := range []int{starts[i+1] - 2, starts[i+1] - 1} {
					changed := text[:k] + string([]byte{text[k] + change}) + text[k+1:]
					checkTextFault(t, changed, starts[i], impl.ErrSum)
					checkTextFault(t, sealed(changed[:end]), starts[i], impl.ErrSum)
				}
			}
			for _, k := range []int{end, end + 1} {
				checkTextFault(t, text[:k]+string([]byte{text[k] + change})+text[k+1:], end, impl.ErrSum)
			}
		}
	}
	// A sum is less than 65521, so that no other number of two bytes stands for it.
	for n := range 1 << 16 {
		text := "LYR\x00" + string(binary.BigEndian.AppendUint16(nil, uint16(n)))
		if at, code := impl.FirstFault(text); (code == 0) != (n == 63167) || code != 0 && (at != 4 || code != impl.ErrSum) {
			t.Errorf("FirstFault(%q) = %d, %d", text, at, code)
		}
	}
	// The sum of a record begins with that record, and does not go on from the one before.
	one, two := textOf(white("a")), textOf(white("b"))
	checkTextFault(t, sealed(sealed("LYR\x02"+one)+sealed(two)), 4, impl.ErrSum)
	checkTextFault(t, sealed("LYR\x02"+sealed(sealed(one)+two)), 12, impl.ErrSum)
}

// Each record is wrong in one way, with right sums.
func TestRecordsThatDoNotBelongInALayer(t *testing.T) {
	a, b := textOf(white("a")), textOf(white("b"))
	d, o := textOf(dir("d", 1)), textOf(opaque("d", 1))
	for _, v := range []struct {
		index, code int
		texts       []string
	}{
		{0, impl.ErrKind, []string{rawRecord(0, "a", 0, "")}},
		{0, impl.ErrKind, []string{rawRecord(6, "a", 0, "")}},
		{1, impl.ErrKind, []string{a, rawRecord(255, "b", 0, "")}},
		{0, impl.ErrName, []string{rawRecord(1, "", 0, "")}},
		{1, impl.ErrName, []string{d, rawRecord(1, "d/", 0, "")}},
		{1, impl.ErrName, []string{a, rawRecord(1, strings.Repeat("b", 255), 0, "")}},
		{0, impl.ErrSize, []string{rawRecord(1, "a", 0, body21)}},
		{0, impl.ErrSize, []string{rawRecord(1, "a", 0, strings.Repeat("x", 255))}},
		{1, impl.ErrSize, []string{a, rawRecord(2, "b", 0, "")}},
		{0, impl.ErrForm, []string{rawRecord(5, "a", 0, "x")}},
		{1, impl.ErrForm, []string{a, rawRecord(4, "b", 0, "x")}},
		{0, impl.ErrRange, []string{rawRecord(5, "a", 512, "")}},
		{1, impl.ErrRange, []string{a, rawRecord(1, "b", 65535, "")}},
		{1, impl.ErrSame, []string{a, a}},
		{1, impl.ErrSame, []string{d, o}},
		{2, impl.ErrSame, []string{a, b, textOf(file("b", "x", 1))}},
		{1, impl.ErrOrder, []string{b, a}},
		{2, impl.ErrOrder, []string{o, textOf(white("d.")), textOf(white("d/b"))}},
		{0, impl.ErrOrphan, []string{textOf(white("a/b"))}},
		{1, impl.ErrOrphan, []string{d, textOf(white("d/b/c"))}},
		{1, impl.ErrNotDir, []string{a, textOf(white("a/b"))}},
		{2, impl.ErrNotDir, []string{o, textOf(link("d/e", "x")), textOf(dir("d/e/f", 1))}},
	} {
		starts := startsOf(v.texts)
		n := len(v.texts)
		checkTextFault(t, rawLayer(n, v.texts...), starts[v.index], v.code)
		// Whatever is behind the record, or behind the layer, does not matter.
		whole := append(slices.Clone(v.texts), rawRecord(0, "", 0, ""), textOf(white("~")))
		checkTextFault(t, rawLayer(n+2, whole...), starts[v.index], v.code)
		checkTextFault(t, rawLayer(255, v.texts...), starts[v.index], v.code)
		checkTextFault(t, rawLayer(n, v.texts...)+"\x00", starts[v.index], v.code)
		cut := "LYR" + string([]byte{byte(n)})
		for _, text := range v.texts {
			cut += sealed(text)
		}
		checkTextFault(t, cut, starts[v.index], v.code)
		checkTextFault(t, cut+"\x00\x00", starts[v.index], v.code)
		// Its own sum, if that is wrong, or its end, if that is missing, precedes its code.
		last := len(cut) - 1
		if v.index == n-1 {
			checkTextFault(t, sealed(cut[:last]+string([]byte{cut[last] + 1})), starts[v.index], impl.ErrSum)
			checkTextFault(t, cut[:last], starts[v.index], impl.ErrForm)
		}
	}
}

// The first error is that of the first wrong record, also where later ones, the end or the sums are wrong, too.
func TestLayerTextsWithSeveralErrors(t *testing.T) {
	a, b, c, d := textOf(white("a")), textOf(white("b")), rawRecord(0, "c", 0, ""), textOf(white("d"))
	wrong := func(text string) string { return text + "\x00\x00" }
	for _, v := range []struct {
		text     string
		at, code int
	}{
		{"LYS\xff" + wrong(c), 0, impl.ErrForm},
		{"LYR\x02" + wrong(a) + wrong(b) + "\x00\x00", 4, impl.ErrSum},
		{"LYR\x02" + sealed(a) + wrong(b) + "\x00\x00", 12, impl.ErrSum},
		{"LYR\x02" + sealed(a) + sealed(b) + "\x00\x00", 20, impl.ErrSum},
		{"LYR\x02" + sealed(a) + sealed(b) + "\x00\x00\x00", 20, impl.ErrForm},
		{"LYR\x03" + sealed(a) + wrong(b) + sealed(c) + "\x00\x00", 12, impl.ErrSum},
		{"LYR\x03" + sealed(a) + sealed(c) + wrong(b) + "\x00\x00", 12, impl.ErrKind},
		{"LYR\x03" + sealed(b) + sealed(a) + sealed(c), 12, impl.ErrOrder},
		{"LYR\x03" + sealed(b) + sealed(b) + sealed(c)[:3], 12, impl.ErrSame},
		{"LYR\x03" + sealed(a) + wrong(c) + sealed(d), 12, impl.ErrSum},
		{"LYR\x03" + sealed(a) + c, 12, impl.ErrForm},
		{"LYR\x03" + sealed(a) + c + "\x00", 12, impl.ErrForm},
		{"LYR\x03" + sealed(a) + sealed(b) + c, 20, impl.ErrForm},
		{"LYR\x04" + sealed(a) + sealed(b) + "\x00\x00", 20, impl.ErrForm},
		{"LYR\x04" + sealed(a) + sealed(b) + sealed(d), 28, impl.ErrForm},
		{"LYR\x01" + sealed(a) + wrong(b), 12, impl.ErrForm},
		{"LYR\x00" + sealed(c), 4, impl.ErrForm},
		{"LYR\x01" + sealed(rawRecord(1, "", 512, body21)), 4, impl.ErrName},
		{"LYR\x02" + sealed(b) + sealed(rawRecord(1, "a/x", 512, "")), 12, impl.ErrRange},
		{"LYR\x02" + sealed(b) + sealed(textOf(white("a/x"))), 12, impl.ErrOrder},
	} {
		checkTextFault(t, v.text, v.at, v.code)
		if _, at, code := layerByRule(v.text); at != v.at || code != v.code {
			t.Errorf("the rule of this test gives %d, %d for %q", at, code, v.text)
		}
	}
}

// The record with the index 16 is one too many, whatever it is, but its end and its sum come first.
func TestSixteenAndSeventeenRecordsInATextOfALayer(t *testing.T) {
	sixteen := textsOf(whites(16))
	checkDecodedLayer(t, rawLayer(16, sixteen...), whites(16), 0, 0)
	checkEncodedLayer(t, whites(16), rawLayer(16, sixteen...), 0)
	checkEncodedLayer(t, whites(17), "", impl.ErrBad)
	at := startsOf(sixteen)[16]
	for _, last := range append(textsOf(fullRecords()), sixteen[15], sixteen[0], rawRecord(0, "z", 0, ""), rawRecord(255, "", 512, body21), textOf(white("z")), textOf(white("z/z"))) {
		checkTextFault(t, rawLayer(17, append(slices.Clone(sixteen), last)...), at, impl.ErrMany)
		checkTextFault(t, rawLayer(16, append(slices.Clone(sixteen), last)...), at, impl.ErrForm)
		for _, number := range []int{17, 18, 100, 255} {
			text := rawLayer(number, append(slices.Clone(sixteen), last, last, rawRecord(0, "", 0, ""))...)
			checkTextFault(t, text, at, impl.ErrMany)
			sum := at + len(last)
			checkTextFault(t, text[:sum]+string([]byte{text[sum] + 1})+text[sum+1:], at, impl.ErrSum)
			checkTextFault(t, text[:sum+2], at, impl.ErrMany)
			checkTextFault(t, text[:sum+1], at, impl.ErrForm)
			checkTextFault(t, text[:sum], at, impl.ErrForm)
			checkTextFault(t, text[:at], at, impl.ErrForm)
		}
	}
	for i := range 16 {
		texts := textsOf(whites(17))
		texts[i] = rawRecord(6, "A", 0, "")
		checkTextFault(t, rawLayer(17, texts...), startsOf(texts)[i], impl.ErrKind)
	}
	many := textsOf(whites(255))
	checkTextFault(t, rawLayer(255, many...), at, impl.ErrMany)
}

func TestLayerTextsThatAreTooLong(t *testing.T) {
	for _, l := range [][]impl.Record{nil, whites(1), whites(16), largeLayer()} {
		text, starts := layerText(l), startsOf(textsOf(l))
		full := text + strings.Repeat("\x00", impl.MaxText-len(text))
		checkTextFault(t, full, starts[len(l)], impl.ErrForm)
		checkTextFault(t, full+"\x00", 0, impl.ErrLong)
		checkTextFault(t, full+full, 0, impl.ErrLong)
		checkTextFault(t, "\x00"+full, 0, impl.ErrLong)
		checkTextFault(t, "\x00"+full[1:], 0, impl.ErrForm)
	}
	for _, long := range append(tooLong(), "LYR"+strings.Repeat("\xff", impl.MaxText), "LYR\x01"+strings.Repeat("\x00", impl.MaxText)) {
		checkTextFault(t, long, 0, impl.ErrLong)
		checkLayerText(t, long[:impl.MaxText])
	}
}

// Strings inside records are limited only as chapter 3 says: what one byte could not tell is ErrBad.
func TestListsThatAreNotEncoded(t *testing.T) {
	for _, bad := range notLayers() {
		checkEncodedLayer(t, bad, "", impl.ErrBad)
	}
	for _, n := range []int{256, 257, 276, 1000, impl.MaxText, impl.MaxText + 1} {
		for _, r := range layer(file(strings.Repeat("a", n), "", 0), file("a", strings.Repeat("a", n), 0), link("a", strings.Repeat("a", n)), white(strings.Repeat("a", n))) {
			checkEncodedRecord(t, r, "", impl.ErrBad)
			checkEncodedLayer(t, layer(r), "", impl.ErrBad)
			checkEncodedLayer(t, layer(white("A"), r), "", impl.ErrBad)
		}
	}
	for _, n := range []int{17, 255, 256, 256 + 16, impl.MaxList} {
		checkEncodedLayer(t, whites(n), "", impl.ErrBad)
	}
	long := make([]impl.Record, impl.MaxList+1)
	checkEncodedLayer(t, long, "", impl.ErrLong)
	copy(long, whites(16))
	checkEncodedLayer(t, long, "", impl.ErrLong)
	checkEncodedLayer(t, make([]impl.Record, impl.MaxList+100), "", impl.ErrLong)
}
