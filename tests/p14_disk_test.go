package tests

import (
	"fmt"
	"maps"
	"math"
	"math/rand"
	"regexp"
	"slices"
	"strings"
	"testing"

	"loop.example/g00798/impl"
)

// modelDisk is a disk as maps, in which a file without a name may still be there.
type modelDisk struct {
	texts     map[int]string
	synced    map[int]bool
	now, safe map[string]int
	next      int
}

func modelOf(d impl.Disk) modelDisk {
	m := modelDisk{texts: map[int]string{}, synced: map[int]bool{}, now: idsByName(d.Now), safe: idsByName(d.Safe), next: d.Next}
	for _, f := range d.Inodes {
		m.texts[f.Id], m.synced[f.Id] = f.Text, f.Synced
	}
	return m
}

func idsByName(slots []impl.Slot) map[string]int {
	ids := map[string]int{}
	for _, s := range slots {
		ids[s.Name] = s.Id
	}
	return ids
}

// disk leaves out the files without a name.
func (m modelDisk) disk() impl.Disk {
	d := impl.Disk{Now: slotsByName(m.now), Safe: slotsByName(m.safe), Next: m.next}
	for _, id := range slices.Sorted(maps.Keys(m.texts)) {
		if slices.Contains(slices.Collect(maps.Values(m.now)), id) || slices.Contains(slices.Collect(maps.Values(m.safe)), id) {
			d.Inodes = append(d.Inodes, impl.Inode{Id: id, Text: m.texts[id], Synced: m.synced[id]})
		}
	}
	return d
}

func slotsByName(ids map[string]int) []impl.Slot {
	var slots []impl.Slot
	for _, name := range slices.Sorted(maps.Keys(ids)) {
		slots = append(slots, impl.Slot{Name: name, Id: ids[name]})
	}
	return slots
}

var nameByRule = regexp.MustCompile(`^[a-zA-Z_][a-zA-Z_0-9]{0,11}$`)

// diskByRule is the first paragraph of chapter 12.
func diskByRule(d impl.Disk) bool {
	files, named := map[int]bool{}, map[int]bool{}
	for i, f := range d.Inodes {
		files[f.Id] = true
		if f.Id < 1 || f.Id > d.Next-1 || len(f.Text) > 4096 || i > 0 && d.Inodes[i-1].Id >= f.Id {
			return false
		}
	}
	for _, slots := range [][]impl.Slot{d.Now, d.Safe} {
		for i, s := range slots {
			named[s.Id] = true
			if !nameByRule.MatchString(s.Name) || !files[s.Id] || i > 23 || i > 0 && slots[i-1].Name >= s.Name {
				return false
			}
		}
	}
	return len(named) == len(files) && d.Next >= 1 && d.Next <= 1000000
}

// diskOp is an operation on a disk, with its arguments.
type diskOp struct {
	kind           byte
	name, to, text string
}

func (o diskOp) String() string {
	return fmt.Sprintf("%c %.20q %.20q and %d bytes", o.kind, o.name, o.to, len(o.text))
}

func (o diskOp) run(d impl.Disk) (impl.Disk, int) {
	switch o.kind {
	case 'w':
		return impl.WriteFile(d, o.name, o.text)
	case 's':
		return impl.SyncFile(d, o.name)
	case 'r':
		return impl.RenameFile(d, o.name, o.to)
	case 'x':
		return impl.RemoveFile(d, o.name)
	}
	return impl.SyncDir(d)
}

func writing(name, text string) diskOp { return diskOp{kind: 'w', name: name, text: text} }
func syncing(name string) diskOp       { return diskOp{kind: 's', name: name} }
func renaming(name, to string) diskOp  { return diskOp{kind: 'r', name: name, to: to} }
func removing(name string) diskOp      { return diskOp{kind: 'x', name: name} }
func syncingDir() diskOp               { return diskOp{kind: 'd'} }

// byRule is a second reading of the operations of chapter 12.
func (o diskOp) byRule(d impl.Disk) (impl.Disk, int) {
	switch {
	case len(o.name) > 65536 || len(o.to) > 65536 || len(o.text) > 65536:
		return impl.Disk{}, impl.ErrLong
	case !diskByRule(d):
		return impl.Disk{}, impl.ErrBad
	}
	m := modelOf(d)
	if code := o.faultByRule(m); code != 0 {
		return d, code
	}
	id := m.now[o.name]
	switch o.kind {
	case 'w':
		m.texts[m.next], m.synced[m.next], m.now[o.name] = o.text, false, m.next
		m.next++
	case 's':
		m.synced[id] = true
	case 'r':
		m.now[o.to] = id
		if o.to != o.name {
			delete(m.now, o.name)
		}
	case 'x':
		delete(m.now, o.name)
	case 'd':
		m.safe = m.now
	}
	return m.disk(), 0
}

func (o diskOp) faultByRule(m modelDisk) int {
	others := maps.Clone(m.now)
	delete(others, o.name)
	_, there := m.now[o.name]
	switch {
	case o.kind == 'w' && !nameByRule.MatchString(o.name), o.kind == 'r' && !nameByRule.MatchString(o.to):
		return impl.ErrName
	case o.kind == 'w' && len(o.text) > 4096:
		return impl.ErrSize
	case o.kind == 'w' && (len(others) == 24 || m.next == 1000000):
		return impl.ErrFull
	case o.kind != 'w' && o.kind != 'd' && !there:
		return impl.ErrNone
	}
	return 0
}

// crashByRule is a second reading of a crash. It also returns how many picks are asked for, whether they are there or not.
func crashByRule(d impl.Disk, picks []int) (impl.Disk, int, int) {
	m, left, asked := modelOf(d), map[string]int{}, 0
	odd := func() bool {
		asked++
		return asked <= len(picks) && picks[asked-1]&1 == 1
	}
	both := maps.Clone(m.now)
	maps.Copy(both, m.safe)
	for _, name := range slices.Sorted(maps.Keys(both)) {
		from := m.safe
		if m.now[name] != m.safe[name] && odd() {
			from = m.now
		}
		if id, there := from[name]; there {
			left[name] = id
		}
	}
	m.now, m.safe = left, left
	for _, f := range m.disk().Inodes {
		if !f.Synced && !odd() {
			m.texts[f.Id] = ""
		}
		m.synced[f.Id] = true
	}
	switch {
	case len(picks) > 4096:
		return impl.Disk{}, impl.ErrLong, 0
	case !diskByRule(d):
		return impl.Disk{}, impl.ErrBad, 0
	case len(left) > 24:
		return d, impl.ErrFull, asked
	}
	return m.disk(), 0, asked
}

// everyCrash calls do for each list of picks that a crash of d can ask for, of zeros and ones.
func everyCrash(d impl.Disk, do func(picks []int)) {
	var extend func(picks []int)
	extend = func(picks []int) {
		if _, _, asked := crashByRule(d, picks); asked <= len(picks) {
			do(picks)
			return
		}
		for pick := range 2 {
			extend(append(slices.Clone(picks), pick))
		}
	}
	extend(nil)
}

func equalDisks(a, b impl.Disk) bool {
	return a.Next == b.Next && slices.Equal(a.Inodes, b.Inodes) && slices.Equal(a.Now, b.Now) && slices.Equal(a.Safe, b.Safe)
}

func showDisk(d impl.Disk) string {
	return fmt.Sprintf("%.600s", fmt.Sprintf("%q", []any{d}))
}

func checkDisk(t *testing.T, what any, d, got impl.Disk, code int, want impl.Disk, wantCode int) {
	t.Helper()
	if !equalDisks(got, want) || code != wantCode {
		t.Errorf("%v of %s = %s, %d, want %s, %d", what, showDisk(d), showDisk(got), code, showDisk(want), wantCode)
	}
}

// checkOp runs an operation by both readings, and returns their result.
func checkOp(t *testing.T, o diskOp, d impl.Disk) (impl.Disk, int) {
	t.Helper()
	got, code := o.run(d)
	want, wantCode := o.byRule(d)
	checkDisk(t, o, d, got, code, want, wantCode)
	if diskByRule(d) && !impl.DiskOK(got) && wantCode != impl.ErrLong {
		t.Errorf("%v of %s leaves a disk that is not valid: %s", o, showDisk(d), showDisk(got))
	}
	return want, wantCode
}

func checkCrash(t *testing.T, d impl.Disk, picks []int) (impl.Disk, int) {
	t.Helper()
	got, code := impl.Crash(d, picks)
	want, wantCode, _ := crashByRule(d, picks)
	checkDisk(t, fmt.Sprintf("the crash %.200v", picks), d, got, code, want, wantCode)
	return want, wantCode
}

func checkRead(t *testing.T, d impl.Disk, name, want string, wantCode int) {
	t.Helper()
	if got, code := impl.DiskRead(d, name); got != want || code != wantCode {
		t.Errorf("DiskRead(%s, %.20q) = %.100q, %d, want %.100q, %d", showDisk(d), name, got, code, want, wantCode)
	}
}

// checkReads reads every name of the disk, and some that it does not have.
func checkReads(t *testing.T, d impl.Disk) {
	t.Helper()
	m := modelOf(d)
	for _, name := range append(slices.Collect(maps.Keys(m.safe)), slices.Concat(slices.Collect(maps.Keys(m.now)), []string{"", "zap", "a b", "a", "A"})...) {
		if id, there := m.now[name]; there {
			checkRead(t, d, name, m.texts[id], 0)
		} else {
			checkRead(t, d, name, "", impl.ErrNone)
		}
	}
}

// checkSurvives is promise 14: a synced file whose name is the same in both directories survives every crash with its text, and a crash leaves nothing that another one could lose.
func checkSurvives(t *testing.T, d impl.Disk, picks []int) {
	t.Helper()
	after, code := impl.Crash(d, picks)
	if code != 0 {
		return
	}
	m := modelOf(d)
	for name, id := range m.now {
		if m.safe[name] == id && m.synced[id] {
			checkRead(t, after, name, m.texts[id], 0)
		}
	}
	for _, more := range [][]int{nil, {1, 1, 1}, {0, 1, 0, 1}} {
		again, code := impl.Crash(after, more)
		checkDisk(t, "a second crash", after, again, code, after, 0)
	}
}

// opsOver returns every operation over a few names, with a text that tells which file it is.
func opsOver(d impl.Disk, names ...string) []diskOp {
	ops := []diskOp{syncingDir()}
	for _, name := range names {
		ops = append(ops, writing(name, fmt.Sprint(name, d.Next)), syncing(name), removing(name))
		for _, to := range names {
			ops = append(ops, renaming(name, to))
		}
	}
	return ops
}

func emptyDisk() impl.Disk {
	return impl.Disk{Next: 1}
}

// wideDisk has n names in Now and m other ones in Safe, each with a file of its own. In the order of names both are mixed.
func wideDisk(n, m int) impl.Disk {
	model := modelOf(impl.Disk{Next: n + m + 1})
	for i := range n + m {
		name := fmt.Sprint("L", i)
		model.texts[i+1], model.synced[i+1] = "text of "+name, i%3 == 0
		if i < n {
			model.now[name] = i + 1
		} else {
			model.safe[name] = i + 1
		}
	}
	return model.disk()
}

// reached calls do for every disk that at most n operations over a few names make of an empty one.
func reached(n int, names []string, do func(d impl.Disk)) int {
	seen := map[string]bool{}
	last := []impl.Disk{emptyDisk()}
	for range n + 1 {
		var next []impl.Disk
		for _, d := range last {
			do(d)
			for _, o := range opsOver(d, names...) {
				after, code := o.byRule(d)
				if key := fmt.Sprint(after); code == 0 && !seen[key] {
					seen[key] = true
					next = append(next, after)
				}
			}
		}
		last = next
	}
	return len(seen)
}

func TestConstantsOfDisks(t *testing.T) {
	if impl.MaxFiles != 24 {
		t.Error("a constant differs from the document")
	}
}

func TestEveryShortSequenceOfOperations(t *testing.T) {
	crashes := 0
	number := reached(8, []string{"a", "b"}, func(d impl.Disk) {
		if !impl.DiskOK(d) || !impl.SameDisk(d, d) {
			t.Errorf("%s is not valid", showDisk(d))
		}
		for _, o := range append(opsOver(d, "a", "b"), writing("", ""), writing("0", ""), renaming("a", ""), renaming("zap", "a b"), renaming("zap", "a"), syncing("zap"), removing("")) {
			checkOp(t, o, d)
		}
		checkReads(t, d)
		everyCrash(d, func(picks []int) {
			checkCrash(t, d, picks)
			checkSurvives(t, d, picks)
			crashes++
		})
	})
	if number < 2000 || crashes < 10000 {
		t.Errorf("this test has only %d disks and %d crashes", number, crashes)
	}
}

// Three names, and crashes between the operations.
func TestEveryVeryShortSequenceOverThreeNames(t *testing.T) {
	reached(3, []string{"b", "a", "c"}, func(d impl.Disk) {
		everyCrash(d, func(picks []int) {
			after, _ := checkCrash(t, d, picks)
			for _, o := range opsOver(after, "a", "b", "c") {
				checkOp(t, o, after)
			}
		})
	})
}

// someNames are many enough for a full directory, in an order that is not that of names.
func someNames() []string {
	names := []string{"b", "a", "B", "_", "a0", "a_", "MANIFEST", "abcdefghijkl", "tmp", "mtmp"}
	for i := range 20 {
		names = append(names, fmt.Sprint("L", i))
	}
	return names
}

func randomOp(random *rand.Rand, d impl.Disk, names []string) diskOp {
	name, to := names[random.Intn(len(names))], names[random.Intn(len(names))]
	if random.Intn(12) == 0 {
		name = []string{"", "0", "a b", "zap", "abcdefghijklm", "a/b", "\xff"}[random.Intn(7)]
	}
	if random.Intn(12) == 0 {
		to = []string{"", "9a", "a-b", "abcdefghijklm", "é", name}[random.Intn(6)]
	}
	text := fmt.Sprint("text of ", d.Next)
	if random.Intn(10) == 0 {
		text = []string{"", strings.Repeat("t", 4095), strings.Repeat("t", 4096), strings.Repeat("t", 4097), strings.Repeat("t", 65536)}[random.Intn(5)]
	}
	return diskOp{kind: "wwwwwsssrrrxd"[random.Intn(13)], name: name, to: to, text: text}
}

func randomPicks(random *rand.Rand) []int {
	picks := make([]int, random.Intn(40))
	for i := range picks {
		picks[i] = []int{0, 1, 2, 3, -1, -2, -3, math.MaxInt, math.MinInt, math.MinInt + 1, math.MaxInt - 1}[random.Intn(11)]
	}
	return picks
}

// someDisks returns the disks of random sequences of operations and crashes, the same ones in each run.
func someDisks(n, steps int) []impl.Disk {
	random := rand.New(rand.NewSource(11))
	var disks []impl.Disk
	for i := range n {
		d := []impl.Disk{emptyDisk(), {Next: 7}, {Next: 999980}, wideDisk(23, i%25)}[i%4]
		names := someNames()[:2+i%29]
		for range steps {
			disks = append(disks, d)
			if random.Intn(9) > 0 {
				d, _ = randomOp(random, d, names).byRule(d)
			} else if after, code, _ := crashByRule(d, randomPicks(random)); code == 0 && random.Intn(9) == 0 {
				d = after
			}
			if d.Next == 0 {
				panic("a random operation with an argument that is too long")
			}
		}
	}
	return disks
}

func TestSomeOperationsOnSomeDisks(t *testing.T) {
	random := rand.New(rand.NewSource(12))
	seen := map[int]int{}
	for _, d := range someDisks(60, 60) {
		for range 3 {
			_, code := checkOp(t, randomOp(random, d, someNames()), d)
			seen[code]++
		}
		checkReads(t, d)
	}
	checkSeen(t, seen, impl.OK, impl.ErrName, impl.ErrNone, impl.ErrSize, impl.ErrFull)
}

func TestSomeCrashesOfSomeDisks(t *testing.T) {
	random := rand.New(rand.NewSource(13))
	seen, short, long := map[int]int{}, 0, 0
	for _, d := range append(someDisks(60, 60), wideDisk(24, 24), wideDisk(24, 12), wideDisk(24, 1)) {
		for _, picks := range append([][]int{nil, {0}, {1}, slices.Repeat([]int{1}, 100), slices.Repeat([]int{-1}, 100), slices.Repeat([]int{1, 0}, 50), slices.Repeat([]int{-2, -3, 4}, 30)}, randomPicks(random), randomPicks(random)) {
			_, code := checkCrash(t, d, picks)
			checkSurvives(t, d, picks)
			seen[code]++
			if _, _, asked := crashByRule(d, picks); asked > len(picks) {
				short++
			} else if asked < len(picks) {
				long++
			}
		}
	}
	checkSeen(t, seen, impl.OK, impl.ErrFull)
	if short < 1000 || long < 1000 {
		t.Errorf("in this test, %d lists of picks are too short and %d longer than what is consumed", short, long)
	}
}

// What was written last under a name is read, until it is renamed or removed, whatever is synced.
func TestWhatIsWrittenIsRead(t *testing.T) {
	random := rand.New(rand.NewSource(14))
	read := 0
	for i := range 200 {
		d, texts := emptyDisk(), map[string]string{}
		for range 60 {
			o := randomOp(random, d, someNames()[:3+i%20])
			after, code := o.run(d)
			if code == 0 {
				moveByRule(texts, o)
			}
			d = after
			for name, text := range texts {
				checkRead(t, d, name, text, 0)
				read++
			}
			if len(d.Now) != len(texts) {
				t.Fatalf("%s has other names than %q", showDisk(d), texts)
			}
		}
	}
	if read < 20000 {
		t.Errorf("this test reads only %d files", read)
	}
}

func moveByRule(texts map[string]string, o diskOp) {
	text := texts[o.name]
	switch o.kind {
	case 'w':
		texts[o.name] = o.text
	case 'x':
		delete(texts, o.name)
	case 'r':
		delete(texts, o.name)
		texts[o.to] = text
	}
}

// doAll runs operations that must succeed.
func doAll(t *testing.T, d impl.Disk, ops ...diskOp) impl.Disk {
	t.Helper()
	for _, o := range ops {
		var code int
		if d, code = o.run(d); code != 0 {
			t.Fatalf("%v has the code %d", o, code)
		}
	}
	return d
}

// A file that is synced, and whose directory is synced then, survives, whatever happens to other names before the crash.
func TestSafeFilesSurviveEveryCrash(t *testing.T) {
	random := rand.New(rand.NewSource(15))
	for i := range 300 {
		d := doAll(t, emptyDisk(), writing("x", "X"), writing("keep", "kept"), writing("c", "C"), syncing("keep"), syncingDir())
		for range i % 9 {
			d, _ = randomOp(random, d, []string{"a", "b", "x", "c", "zz"}).run(d)
		}
		everyCrash(d, func(picks []int) {
			after, code := impl.Crash(d, picks)
			if code != 0 {
				t.Fatalf("the crash %v of %s has the code %d", picks, showDisk(d), code)
			}
			checkRead(t, after, "keep", "kept", 0)
		})
		after, _ := impl.Crash(d, randomPicks(random))
		checkRead(t, after, "keep", "kept", 0)
	}
}

// The order of both syncs does not matter, but one of them alone is not enough.
func TestBothSyncsAreNeeded(t *testing.T) {
	for _, ops := range [][]diskOp{{syncing("a"), syncingDir()}, {syncingDir(), syncing("a")}, {syncingDir(), syncing("a"), syncingDir(), syncing("a")}} {
		after, _ := impl.Crash(doAll(t, doAll(t, emptyDisk(), writing("a", "A")), ops...), nil)
		checkRead(t, after, "a", "A", 0)
	}
	after, _ := impl.Crash(doAll(t, emptyDisk(), writing("a", "A"), syncing("a")), nil)
	checkRead(t, after, "a", "", impl.ErrNone)
	after, _ = impl.Crash(doAll(t, emptyDisk(), writing("a", "A"), syncing("a")), []int{1})
	checkRead(t, after, "a", "A", 0)
	after, _ = impl.Crash(doAll(t, emptyDisk(), writing("a", "A"), syncingDir()), nil)
	checkRead(t, after, "a", "", 0)
	after, _ = impl.Crash(doAll(t, emptyDisk(), writing("a", "A"), syncingDir()), []int{1})
	checkRead(t, after, "a", "A", 0)
}

// diskOf makes a disk of files, each with its Id, text and perhaps a '!' if it is synced, and of slots, each a name with the Id of a file.
func diskOf(next int, files, now, safe string) impl.Disk {
	d := impl.Disk{Next: next}
	for _, word := range strings.Fields(files) {
		text, synced := strings.CutSuffix(word, "!")
		d.Inodes = append(d.Inodes, impl.Inode{Id: int(text[0] - '0'), Text: text[1:], Synced: synced})
	}
	for _, word := range strings.Fields(now) {
		d.Now = append(d.Now, impl.Slot{Name: word[:1], Id: int(word[1] - '0')})
	}
	for _, word := range strings.Fields(safe) {
		d.Safe = append(d.Safe, impl.Slot{Name: word[:1], Id: int(word[1] - '0')})
	}
	return d
}

// checkSteps checks what each operation leaves, written out by hand.
func checkSteps(t *testing.T, d impl.Disk, steps []diskStep) {
	t.Helper()
	for _, step := range steps {
		got, code := step.run(d)
		checkDisk(t, step.diskOp, d, got, code, step.want, step.code)
		d = step.want
	}
}

type diskStep struct {
	diskOp
	want impl.Disk
	code int
}

func TestOperationsOneByOne(t *testing.T) {
	checkSteps(t, emptyDisk(), []diskStep{
		{syncing("a"), emptyDisk(), impl.ErrNone},
		{removing("a"), emptyDisk(), impl.ErrNone},
		{renaming("a", "b"), emptyDisk(), impl.ErrNone},
		{renaming("a", "a"), emptyDisk(), impl.ErrNone},
		{syncingDir(), emptyDisk(), 0},
		{writing("b", "B"), diskOf(2, "1B", "b1", ""), 0},
		{writing("a", ""), diskOf(3, "1B 2", "a2 b1", ""), 0},
		{writing("A", "C"), diskOf(4, "1B 2 3C", "A3 a2 b1", ""), 0},
		{syncing("A"), diskOf(4, "1B 2 3C!", "A3 a2 b1", ""), 0},
		{syncing("A"), diskOf(4, "1B 2 3C!", "A3 a2 b1", ""), 0},
		{writing("A", "D"), diskOf(5, "1B 2 4D", "A4 a2 b1", ""), 0},
		{removing("a"), diskOf(5, "1B 4D", "A4 b1", ""), 0},
		{syncing("b"), diskOf(5, "1B! 4D", "A4 b1", ""), 0},
		{syncingDir(), diskOf(5, "1B! 4D", "A4 b1", "A4 b1"), 0},
		{writing("b", "E"), diskOf(6, "1B! 4D 5E", "A4 b5", "A4 b1"), 0},
		{removing("b"), diskOf(6, "1B! 4D", "A4", "A4 b1"), 0},
		{syncing("b"), diskOf(6, "1B! 4D", "A4", "A4 b1"), impl.ErrNone},
		{removing("b"), diskOf(6, "1B! 4D", "A4", "A4 b1"), impl.ErrNone},
		{renaming("b", "a"), diskOf(6, "1B! 4D", "A4", "A4 b1"), impl.ErrNone},
		{removing("A"), diskOf(6, "1B! 4D", "", "A4 b1"), 0},
		{writing("c", "F"), diskOf(7, "1B! 4D 6F", "c6", "A4 b1"), 0},
		{syncingDir(), diskOf(7, "6F", "c6", "c6"), 0},
		{removing("c"), diskOf(7, "6F", "", "c6"), 0},
		{syncingDir(), diskOf(7, "", "", ""), 0},
		{writing("a", "G"), diskOf(8, "7G", "a7", ""), 0},
	})
}

// A file is renamed onto a new name, a name that is taken and its own, with and without names that Safe still has.
func TestRenamedFiles(t *testing.T) {
	checkSteps(t, diskOf(5, "1A 2B! 3C", "a1 b2 c3", "a1"), []diskStep{
		{renaming("b", "b"), diskOf(5, "1A 2B! 3C", "a1 b2 c3", "a1"), 0},
		{renaming("b", "d"), diskOf(5, "1A 2B! 3C", "a1 c3 d2", "a1"), 0},
		{renaming("c", "B"), diskOf(5, "1A 2B! 3C", "B3 a1 d2", "a1"), 0},
		{renaming("d", "B"), diskOf(5, "1A 2B!", "B2 a1", "a1"), 0},
		{renaming("B", "a"), diskOf(5, "1A 2B!", "a2", "a1"), 0},
		{renaming("a", "a"), diskOf(5, "1A 2B!", "a2", "a1"), 0},
		{syncing("a"), diskOf(5, "1A 2B!", "a2", "a1"), 0},
		{renaming("a", "e"), diskOf(5, "1A 2B!", "e2", "a1"), 0},
		{renaming("a", "e"), diskOf(5, "1A 2B!", "e2", "a1"), impl.ErrNone},
		{renaming("e", "e "), diskOf(5, "1A 2B!", "e2", "a1"), impl.ErrName},
		{syncingDir(), diskOf(5, "2B!", "e2", "e2"), 0},
		{renaming("e", "f"), diskOf(5, "2B!", "f2", "e2"), 0},
		{writing("e", "E"), diskOf(6, "2B! 5E", "e5 f2", "e2"), 0},
		{renaming("f", "e"), diskOf(6, "2B!", "e2", "e2"), 0},
	})
	// Two names of one file, which a crash has left: one is renamed onto the other, and the file stays.
	checkSteps(t, diskOf(3, "1A! 2B!", "a1 b1 c2", "a1 b1 c2"), []diskStep{
		{renaming("a", "b"), diskOf(3, "1A! 2B!", "b1 c2", "a1 b1 c2"), 0},
		{syncingDir(), diskOf(3, "1A! 2B!", "b1 c2", "b1 c2"), 0},
		{renaming("c", "b"), diskOf(3, "1A! 2B!", "b2", "b1 c2"), 0},
		{syncingDir(), diskOf(3, "2B!", "b2", "b2"), 0},
	})
}

// Both names of a file are those of what is synced, renamed, overwritten and removed.
func TestTwoNamesOfOneFile(t *testing.T) {
	twice := diskOf(4, "1A 2B", "a1 b1 c2", "a2 d2")
	checkSteps(t, twice, []diskStep{{syncing("b"), diskOf(4, "1A! 2B", "a1 b1 c2", "a2 d2"), 0}})
	checkSteps(t, twice, []diskStep{{writing("b", "C"), diskOf(5, "1A 2B 4C", "a1 b4 c2", "a2 d2"), 0}})
	checkSteps(t, twice, []diskStep{{removing("a"), diskOf(4, "1A 2B", "b1 c2", "a2 d2"), 0}, {removing("b"), diskOf(4, "2B", "c2", "a2 d2"), 0}, {removing("c"), diskOf(4, "2B", "", "a2 d2"), 0}})
	checkSteps(t, twice, []diskStep{{renaming("a", "d"), diskOf(4, "1A 2B", "b1 c2 d1", "a2 d2"), 0}, {syncingDir(), diskOf(4, "1A 2B", "b1 c2 d1", "b1 c2 d1"), 0}})
	checkReads(t, twice)
	checkRead(t, twice, "d", "", impl.ErrNone)
	everyCrash(twice, func(picks []int) {
		checkCrash(t, twice, picks)
		checkSurvives(t, twice, picks)
	})
	// One pick belongs to the file and not to each of its names.
	for _, v := range []struct {
		picks []int
		want  impl.Disk
	}{
		{nil, diskOf(4, "2!", "a2 d2", "a2 d2")},
		{[]int{1, 1}, diskOf(4, "1! 2!", "a1 b1 d2", "a1 b1 d2")},
		{[]int{1, 1, 0, 0, 1}, diskOf(4, "1A! 2!", "a1 b1 d2", "a1 b1 d2")},
		{[]int{1, 1, 0, 0, 1, 1}, diskOf(4, "1A! 2B!", "a1 b1 d2", "a1 b1 d2")},
		{[]int{0, 0, 1, 0, 1}, diskOf(4, "2B!", "a2 c2 d2", "a2 c2 d2")},
	} {
		got, code := impl.Crash(twice, v.picks)
		checkDisk(t, v.picks, twice, got, code, v.want, 0)
	}
}

// A removed name that Safe still has comes back, and nothing is left of it after SyncDir.
func TestRemovedNamesThatSafeHas(t *testing.T) {
	d := doAll(t, emptyDisk(), writing("a", "A"), syncing("a"), syncingDir(), removing("a"))
	checkDisk(t, "RemoveFile", d, d, 0, diskOf(2, "1A!", "", "a1"), 0)
	checkRead(t, d, "a", "", impl.ErrNone)
	for _, picks := range [][]int{nil, {0}, {2, 1}, {-2}, {math.MinInt}} {
		after, _ := impl.Crash(d, picks)
		checkRead(t, after, "a", "A", 0)
	}
	for _, picks := range [][]int{{1}, {-1}, {3, 0}, {math.MaxInt}, {math.MinInt + 1}} {
		after, code := impl.Crash(d, picks)
		checkDisk(t, picks, d, after, code, impl.Disk{Next: 2}, 0)
	}
	d = doAll(t, d, syncingDir())
	after, code := impl.Crash(d, nil)
	checkDisk(t, "Crash", d, after, code, impl.Disk{Next: 2}, 0)
}

func TestCrashesOneByOne(t *testing.T) {
	for _, v := range []struct {
		d     impl.Disk
		picks []int
		want  impl.Disk
	}{
		// A name of Now alone, of Safe alone and of both with different files: each consumes a pick, in the order of names and not of Ids.
		{diskOf(9, "1A! 2B! 3C! 4D!", "b2 c1", "a3 c4"), nil, diskOf(9, "3C! 4D!", "a3 c4", "a3 c4")},
		{diskOf(9, "1A! 2B! 3C! 4D!", "b2 c1", "a3 c4"), []int{1}, diskOf(9, "4D!", "c4", "c4")},
		{diskOf(9, "1A! 2B! 3C! 4D!", "b2 c1", "a3 c4"), []int{0, 1}, diskOf(9, "2B! 3C! 4D!", "a3 b2 c4", "a3 b2 c4")},
		{diskOf(9, "1A! 2B! 3C! 4D!", "b2 c1", "a3 c4"), []int{0, 0, 1}, diskOf(9, "1A! 3C!", "a3 c1", "a3 c1")},
		{diskOf(9, "1A! 2B! 3C! 4D!", "b2 c1", "a3 c4"), []int{1, 0, 0, 1, 1}, diskOf(9, "4D!", "c4", "c4")},
		{diskOf(9, "1A! 2B! 3C! 4D!", "b2 c1", "a3 c4"), []int{1, 1, 1}, diskOf(9, "1A! 2B!", "b2 c1", "b2 c1")},
		// A name with the same file in both consumes no pick.
		{diskOf(9, "1A! 2B! 3C!", "a1 b2 c3", "a1 c3"), []int{0, 1}, diskOf(9, "1A! 3C!", "a1 c3", "a1 c3")},
		{diskOf(9, "1A! 2B! 3C!", "a1 b2 c3", "a1 c3"), []int{1, 0}, diskOf(9, "1A! 2B! 3C!", "a1 b2 c3", "a1 b2 c3")},
		// Files consume theirs by Id, not by name, and only those that are left and not synced.
		{diskOf(9, "1A 2B 3C", "a3 b2 c1", "a3 b2 c1"), []int{1}, diskOf(9, "1A! 2! 3!", "a3 b2 c1", "a3 b2 c1")},
		{diskOf(9, "1A 2B 3C", "a3 b2 c1", "a3 b2 c1"), []int{0, 0, -1}, diskOf(9, "1! 2! 3C!", "a3 b2 c1", "a3 b2 c1")},
		{diskOf(9, "1A 2B! 3C", "a3 b2 c1", "a3 b2 c1"), []int{0, 1}, diskOf(9, "1! 2B! 3C!", "a3 b2 c1", "a3 b2 c1")},
		{diskOf(9, "1A! 2B! 3C!", "a3 b2 c1", "a3 b2 c1"), []int{0, 0, 0, 0}, diskOf(9, "1A! 2B! 3C!", "a3 b2 c1", "a3 b2 c1")},
		{diskOf(9, "1A 2B 3C", "a3 b2", "b2 c1"), []int{0, 1, 1}, diskOf(9, "2B!", "b2", "b2")},
		{diskOf(9, "1A 2B 3C", "a3 b2", "b2 c1"), []int{0, 0, 0, 1}, diskOf(9, "1! 2B!", "b2 c1", "b2 c1")},
		// Names come before files: the second pick is that of a name, and the third that of the first file.
		{diskOf(9, "1A 2B", "a1 b2", ""), []int{1, 1, 0, 1}, diskOf(9, "1! 2B!", "a1 b2", "a1 b2")},
		{diskOf(9, "1A 2B", "a1 b2", ""), []int{1, 0, 1}, diskOf(9, "1A!", "a1", "a1")},
		// The name that a file was renamed from and the new one are decided about one by one.
		{diskOf(9, "1A!", "b1", "a1"), []int{0, 1}, diskOf(9, "1A!", "a1 b1", "a1 b1")},
		{diskOf(9, "1A!", "b1", "a1"), []int{1, 0}, diskOf(9, "", "", "")},
		{diskOf(9, "1A", "b1", "a1"), []int{0, 1, 1}, diskOf(9, "1A!", "a1 b1", "a1 b1")},
		{diskOf(9, "1A", "b1", "a1"), []int{0, 1, 2, 1}, diskOf(9, "1!", "a1 b1", "a1 b1")},
		// A file that was empty is synced, too.
		{diskOf(9, "1", "a1", "a1"), nil, diskOf(9, "1!", "a1", "a1")},
		{diskOf(9, "1", "a1", "a1"), []int{1}, diskOf(9, "1!", "a1", "a1")},
		// Picks that nothing asks for change nothing.
		{emptyDisk(), []int{1, 1, 1}, emptyDisk()},
	} {
		got, code := impl.Crash(v.d, v.picks)
		checkDisk(t, v.picks, v.d, got, code, v.want, 0)
		longer, code := impl.Crash(v.d, append(slices.Clone(v.picks), 0, 0, 0, 0, 0, 0, 0, 0))
		checkDisk(t, append(slices.Clone(v.picks), 0), v.d, longer, code, v.want, 0)
	}
}

// At most as many names remain as a directory has, and otherwise the disk is unchanged.
func TestCrashesThatLeaveTooManyNames(t *testing.T) {
	for n := range 25 {
		for m := range 25 {
			d := wideDisk(n, m)
			code := impl.OK
			if n+m > 24 {
				code = impl.ErrFull
			}
			got, gotCode := impl.Crash(d, picksToKeep(d, n+m))
			if gotCode != code || code == impl.ErrFull && !equalDisks(got, d) || code == 0 && len(got.Now) != n+m {
				t.Errorf("the crash that keeps %d and %d names = %s, %d", n, m, showDisk(got), gotCode)
			}
			for _, kept := range []int{24, 25, 0} {
				checkCrash(t, d, picksToKeep(d, kept))
			}
		}
	}
	d := wideDisk(24, 24)
	after, code := impl.Crash(d, picksToKeep(d, 24))
	if _, full := impl.Crash(d, picksToKeep(d, 25)); len(after.Now) != 24 || len(after.Safe) != 24 || len(after.Inodes) != 24 || code != 0 || full != impl.ErrFull {
		t.Errorf("24 names that remain give %s, %d, and 25 the code %d", showDisk(after), code, full)
	}
	// Names that both directories have with different files are no more than one each.
	both := wideDisk(24, 24)
	for i := range both.Safe {
		both.Safe[i].Name = both.Now[i].Name
	}
	for _, picks := range [][]int{nil, slices.Repeat([]int{1}, 99), slices.Repeat([]int{1, 0}, 99), slices.Repeat([]int{0, 3}, 99)} {
		if after, code := checkCrash(t, both, picks); len(after.Now) != 24 || code != 0 {
			t.Errorf("24 names with different files give %s, %d", showDisk(after), code)
		}
	}
}

// picksToKeep returns picks with which the first n names, in increasing order, of a disk without common names are kept, and no others.
func picksToKeep(d impl.Disk, n int) []int {
	m := modelOf(d)
	both := maps.Clone(m.now)
	maps.Copy(both, m.safe)
	var picks []int
	for i, name := range slices.Sorted(maps.Keys(both)) {
		_, inNow := m.now[name]
		if inNow == (i < n) {
			picks = append(picks, 1)
		} else {
			picks = append(picks, 0)
		}
	}
	return picks
}

func TestListsOfPicksOfAllLengths(t *testing.T) {
	d := doAll(t, emptyDisk(), writing("a", "A"), syncingDir(), writing("b", "B"), renaming("a", "c"), writing("a", "D"))
	for _, n := range []int{0, 1, 2, 3, 4, 5, 6, 7, 100, impl.MaxList - 1, impl.MaxList} {
		for _, pick := range []int{1, 0, -1, -2, math.MaxInt, math.MinInt} {
			if after, code := checkCrash(t, d, slices.Repeat([]int{pick}, n)); code != 0 || !diskByRule(after) {
				t.Errorf("%d picks have the code %d", n, code)
			}
		}
	}
	for _, n := range []int{impl.MaxList + 1, impl.MaxList + 2, 100000} {
		for _, bad := range append([]impl.Disk{d, emptyDisk(), wideDisk(24, 24)}, notDisks()...) {
			got, code := impl.Crash(bad, make([]int, n))
			checkDisk(t, fmt.Sprint(n, " picks"), bad, got, code, impl.Disk{}, impl.ErrLong)
		}
	}
}

// A full directory has no place for a new name, whatever Safe has.
func TestFullDirectories(t *testing.T) {
	for _, m := range []int{0, 1, 23, 24} {
		d := wideDisk(24, m)
		for _, o := range []diskOp{writing("new", ""), writing("L", "x"), writing("L47", strings.Repeat("t", 4096))} {
			got, code := o.run(d)
			checkDisk(t, o, d, got, code, d, impl.ErrFull)
		}
		for _, v := range []struct {
			o    diskOp
			code int
		}{{writing("0", ""), impl.ErrName}, {writing("new", strings.Repeat("t", 4097)), impl.ErrSize}, {renaming("new", "L0"), impl.ErrNone}, {renaming("L0", ""), impl.ErrName}, {removing("new"), impl.ErrNone}, {syncing("L47"), impl.ErrNone}} {
			got, code := v.o.run(d)
			checkDisk(t, v.o, d, got, code, d, v.code)
		}
		for _, s := range d.Now {
			for _, o := range []diskOp{writing(s.Name, "again"), renaming(s.Name, "new"), renaming(s.Name, s.Name), renaming(s.Name, "L0"), renaming("L23", s.Name), removing(s.Name), syncing(s.Name), syncingDir()} {
				after, code := checkOp(t, o, d)
				if code != 0 {
					t.Errorf("%v has the code %d", o, code)
				}
				_, code = checkOp(t, writing("another", "x"), after)
				if (code == impl.ErrFull) != (len(after.Now) == 24) {
					t.Errorf("WriteFile has the code %d for %d names", code, len(after.Now))
				}
			}
		}
		full := doAll(t, d, removing("L5"), writing("new", "x"), writing("new", "y"), renaming("new", "newer"))
		checkRead(t, full, "newer", "y", 0)
		checkOp(t, writing("L5", "x"), full)
	}
	for n := range 24 {
		after, code := checkOp(t, writing("new", "x"), wideDisk(n, 24))
		if code != 0 || len(after.Now) != n+1 {
			t.Errorf("WriteFile beside %d names leaves %d and has the code %d", n, len(after.Now), code)
		}
	}
}

func TestTheNextFile(t *testing.T) {
	for _, next := range []int{1, 2, 999998, 999999} {
		d := impl.Disk{Next: next}
		after, code := impl.WriteFile(d, "a", "A")
		checkDisk(t, "WriteFile", d, after, code, impl.Disk{Inodes: []impl.Inode{{Id: next, Text: "A"}}, Now: []impl.Slot{{Name: "a", Id: next}}, Next: next + 1}, 0)
		last, code := checkOp(t, writing("a", "B"), after)
		if wantCode := map[bool]int{true: impl.ErrFull}[next == 999999]; code != wantCode || !impl.DiskOK(last) {
			t.Errorf("a second WriteFile, with Next %d, has the code %d", next+1, code)
		}
	}
	d := doAll(t, impl.Disk{Next: 999997}, writing("b", "B"), syncingDir(), writing("a", "A"), writing("b", "C"))
	if d.Next != 1000000 {
		t.Fatalf("Next is %d", d.Next)
	}
	for _, name := range []string{"a", "b", "c"} {
		got, code := impl.WriteFile(d, name, "")
		checkDisk(t, "WriteFile", d, got, code, d, impl.ErrFull)
		got, code = impl.WriteFile(d, name, strings.Repeat("t", 4097))
		checkDisk(t, "WriteFile", d, got, code, d, impl.ErrSize)
	}
	for _, o := range opsOver(d, "a", "b", "c") {
		checkOp(t, o, d)
	}
	// No Id is used again, not even where no file is left.
	d = doAll(t, emptyDisk(), writing("a", "A"), removing("a"), writing("a", "A"), syncingDir(), removing("a"), syncingDir())
	checkDisk(t, "all", emptyDisk(), d, 0, impl.Disk{Next: 3}, 0)
	crashed, code := impl.Crash(d, []int{1})
	checkDisk(t, "Crash", d, crashed, code, d, 0)
}

func TestTextsOfFiles(t *testing.T) {
	for _, text := range []string{"", "x", "\x00", "\xff\xfe", "a\nb\n", "é", " ", strings.Repeat("\x80", 4095), strings.Repeat("\n", 4096)} {
		for _, d := range []impl.Disk{emptyDisk(), wideDisk(23, 24)} {
			d = doAll(t, d, writing("a", text))
			checkRead(t, d, "a", text, 0)
			checkRead(t, doAll(t, d, syncing("a")), "a", text, 0)
			d = doAll(t, d, renaming("a", "b"))
			checkRead(t, d, "b", text, 0)
			checkRead(t, d, "a", "", impl.ErrNone)
		}
		d := doAll(t, emptyDisk(), writing("a", text), syncing("a"), syncingDir())
		after, _ := impl.Crash(d, nil)
		checkRead(t, after, "a", text, 0)
		after, _ = impl.Crash(doAll(t, d, writing("a", "other")), nil)
		checkRead(t, after, "a", text, 0)
		after, _ = impl.Crash(doAll(t, d, writing("a", "other")), []int{1})
		checkRead(t, after, "a", "", 0)
	}
	for _, size := range []int{4097, 4098, 65535, 65536} {
		for _, d := range []impl.Disk{emptyDisk(), diskOf(3, "1A 2B", "a1", "b2"), wideDisk(24, 1), {Next: 1000000}} {
			got, code := impl.WriteFile(d, "a", strings.Repeat("t", size))
			checkDisk(t, fmt.Sprint(size, " bytes"), d, got, code, d, impl.ErrSize)
			got, code = impl.WriteFile(d, "a b", strings.Repeat("t", size))
			checkDisk(t, fmt.Sprint(size, " bytes"), d, got, code, d, impl.ErrName)
		}
	}
}

func TestNamesOfFiles(t *testing.T) {
	d := doAll(t, emptyDisk(), writing("a", "A"), writing("b", "B"), syncingDir())
	for _, name := range []string{"z", "_", "Z9", "abcdefghijkl", "MANIFEST"} {
		checkRead(t, doAll(t, d, writing(name, "x")), name, "x", 0)
		checkRead(t, doAll(t, d, renaming("a", name)), name, "A", 0)
	}
	for _, name := range []string{"", "0", "9a", "a b", " a", "a ", "a-b", "a/b", "abcdefghijklm", "a\x00", "é", "\xff", "a\n", strings.Repeat("a", 65536)} {
		for _, v := range []struct {
			o    diskOp
			code int
		}{{writing(name, "x"), impl.ErrName}, {renaming("a", name), impl.ErrName}, {renaming("zap", name), impl.ErrName}, {renaming(name, name), impl.ErrName}, {renaming(name, "a"), impl.ErrNone}, {syncing(name), impl.ErrNone}, {removing(name), impl.ErrNone}} {
			got, code := v.o.run(d)
			checkDisk(t, v.o, d, got, code, d, v.code)
		}
		checkRead(t, d, name, "", impl.ErrNone)
	}
}

// notDisks returns disks each of which breaks one rule of the first paragraph of chapter 12, or several.
func notDisks() []impl.Disk {
	disks := []impl.Disk{
		{}, {Next: -1}, {Next: math.MinInt}, {Next: 1000001}, {Next: math.MaxInt},
		diskOf(0, "", "", ""), diskOf(1000001, "1A", "a1", "a1"), diskOf(-5, "1A", "a1", ""),
		// Ids that do not increase, and Ids out of their range.
		diskOf(9, "1A 1A", "a1", ""), diskOf(9, "1A 1B", "a1", "b1"), diskOf(9, "2A 1B", "a1 b2", ""), diskOf(9, "1A 3B 2C", "a1 b2 c3", "a1 b2 c3"),
		diskOf(9, "0A", "a0", ""), diskOf(9, "0A 1B", "a0 b1", ""), diskOf(9, "/A", "a/", "a/"), diskOf(1, "1A", "a1", "a1"), diskOf(4, "4A", "a4", ""), diskOf(4, "1A 5B", "a1", "b5"), diskOf(1, "0A", "a0", ""),
		{Next: 9, Inodes: []impl.Inode{{Id: math.MinInt}}, Now: []impl.Slot{{Name: "a", Id: math.MinInt}}}, {Next: 1000000, Inodes: []impl.Inode{{Id: math.MaxInt}}, Now: []impl.Slot{{Name: "a", Id: math.MaxInt}}},
		// Slots out of order, or twice.
		diskOf(9, "1A", "b1 a1", ""), diskOf(9, "1A", "", "b1 a1"), diskOf(9, "1A 2B", "a1 a2", "a1"), diskOf(9, "1A", "a1", "a1 a1"), diskOf(9, "1A", "a1 B1", ""), diskOf(9, "1A 2B", "a1 c2 b1", "a1"), diskOf(9, "1A 2B", "a1", "_1 a2 Z1"),
		// Slots without a file.
		diskOf(9, "", "a1", ""), diskOf(9, "", "", "a1"), diskOf(9, "1A", "a1 b2", ""), diskOf(9, "1A", "a1", "a1 b2"), diskOf(9, "1A", "a1 b0", "a1"), diskOf(9, "", "a0", "a0"), diskOf(9, "", "", "a0"),
		// Files in neither directory.
		diskOf(9, "1A", "", ""), diskOf(9, "1A 2B", "a1", "a1"), diskOf(9, "1A 2B 3C", "a1", "a3"), diskOf(9, "1A!", "", ""),
		// Names that are no names.
		diskOf(9, "1A", "01", ""), diskOf(9, "1A", "a1", "-1"), diskOf(9, "1A", "a1 ~1", "a1"),
	}
	for _, name := range []string{"", "a b", "abcdefghijklm", "é", "a.", "9a", "a\x00", strings.Repeat("a", 65537)} {
		bad := []impl.Slot{{Name: name, Id: 1}}
		disks = append(disks, impl.Disk{Next: 9, Inodes: []impl.Inode{{Id: 1}}, Now: bad}, impl.Disk{Next: 9, Inodes: []impl.Inode{{Id: 1}}, Safe: bad, Now: []impl.Slot{{Name: "a", Id: 1}}})
	}
	for _, size := range []int{4097, 65536, 65537, 100000} {
		for _, synced := range []bool{true, false} {
			disks = append(disks, impl.Disk{Next: 9, Inodes: []impl.Inode{{Id: 1}, {Id: 2, Text: strings.Repeat("t", size), Synced: synced}}, Now: []impl.Slot{{Name: "a", Id: 1}}, Safe: []impl.Slot{{Name: "a", Id: 2}}})
		}
	}
	for _, n := range []int{25, 26, 48, 100} {
		many := wideDisk(n, 0)
		few := impl.Disk{Inodes: many.Inodes, Now: many.Now[:2], Safe: many.Now, Next: many.Next}
		oneFile := impl.Disk{Inodes: []impl.Inode{{Id: 1}}, Safe: slices.Clone(many.Now), Next: 2}
		for i := range oneFile.Safe {
			oneFile.Safe[i].Id = 1
		}
		disks = append(disks, many, few, oneFile, impl.Disk{Inodes: many.Inodes, Safe: many.Now, Next: many.Next}, impl.Disk{Inodes: many.Inodes, Now: many.Now, Safe: many.Now, Next: many.Next})
	}
	return disks
}

// ErrBad comes with zero values, whatever else is wrong.
func TestDisksThatAreNotValid(t *testing.T) {
	valid := diskOf(9, "1A 2B", "a1", "a1 b2")
	for i, d := range notDisks() {
		if diskByRule(d) {
			t.Fatalf("disk %d of this test is valid: %s", i, showDisk(d))
		}
		if impl.DiskOK(d) || impl.SameDisk(d, d) || impl.SameDisk(d, valid) || impl.SameDisk(valid, d) {
			t.Errorf("DiskOK or SameDisk accepts %s", showDisk(d))
		}
		for _, name := range []string{"a", "b", "L0", "new", "", "a b", "zap", strings.Repeat("a", 65536)} {
			for _, o := range []diskOp{writing(name, "x"), writing(name, strings.Repeat("t", 4097)), syncing(name), renaming(name, "new"), renaming(name, ""), renaming("a", name), removing(name), syncingDir()} {
				got, code := o.run(d)
				checkDisk(t, o, d, got, code, impl.Disk{}, impl.ErrBad)
			}
			checkRead(t, d, name, "", impl.ErrBad)
		}
		for _, picks := range [][]int{nil, {1}, {0}, slices.Repeat([]int{1}, 4096)} {
			got, code := impl.Crash(d, picks)
			checkDisk(t, "Crash", d, got, code, impl.Disk{}, impl.ErrBad)
		}
	}
}

// Each is just within one of the limits that a disk of notDisks exceeds.
func TestDisksThatAreValid(t *testing.T) {
	disks := append(someDisks(40, 40), emptyDisk(), impl.Disk{Next: 1000000}, diskOf(2, "1A", "a1", ""), diskOf(2, "1A", "", "a1"), diskOf(9, "1A 8B!", "a1 b8", ""), diskOf(9, "1A 3B", "a3 b1", "Z3 _1 a1"), diskOf(9, "1A", "a1 b1 c1", ""),
		diskOf(9, "1A 2B", "a1", "a2"), impl.Disk{Next: 9, Inodes: []impl.Inode{{Id: 8, Text: strings.Repeat("t", 4096)}}, Now: []impl.Slot{{Name: "abcdefghijkl", Id: 8}}},
		impl.Disk{Next: 1000000, Inodes: []impl.Inode{{Id: 999999}}, Safe: []impl.Slot{{Name: "_", Id: 999999}}}, wideDisk(24, 24), wideDisk(24, 0), wideDisk(0, 24), wideDisk(1, 24))
	for _, d := range disks {
		if !diskByRule(d) {
			t.Fatalf("a disk of this test is not valid: %s", showDisk(d))
		}
		if !impl.DiskOK(d) || !impl.SameDisk(d, d) {
			t.Errorf("DiskOK or SameDisk does not accept %s", showDisk(d))
		}
		for _, o := range opsOver(d, "a", "L0") {
			checkOp(t, o, d)
		}
		checkReads(t, d)
	}
}

// The files of a disk have no limit of their own, so that a list of any length must be rejected in a short time.
func TestVeryLongListsOfADisk(t *testing.T) {
	files, slots := make([]impl.Inode, 300000), make([]impl.Slot, 300000)
	for i := range files {
		files[i].Id, slots[i].Id = i+1, i+1
		slots[i].Name = fmt.Sprintf("a%06d", i)
	}
	for _, d := range []impl.Disk{{Inodes: files, Next: 1000000}, {Inodes: files, Now: slots[:24], Safe: slots[24:48], Next: 1000000}, {Now: slots, Next: 1000000}, {Inodes: files[:1], Now: slots[:1], Safe: slots, Next: 1000000}, {Inodes: files, Now: slots, Safe: slots, Next: 1000000}, {Inodes: files, Now: slots[:1], Safe: slots, Next: 1000000}} {
		got, code := impl.SyncDir(d)
		if impl.DiskOK(d) || code != impl.ErrBad || !equalDisks(got, impl.Disk{}) {
			t.Errorf("a disk of %d files is accepted, or has the code %d", len(d.Inodes), code)
		}
	}
}

// ErrLong precedes all other codes, and comes with zero values, as chapter 1 asks.
func TestNamesAndTextsThatAreTooLong(t *testing.T) {
	for _, d := range append([]impl.Disk{emptyDisk(), diskOf(3, "1A 2B", "a1", "b2"), wideDisk(24, 24), {Next: 1000000}}, notDisks()...) {
		for _, long := range tooLong() {
			for _, o := range []diskOp{writing(long, "x"), writing(long, long), writing("a", long), writing("", long), syncing(long), renaming(long, "a"), renaming(long, ""), renaming("a", long), renaming("zap", long), renaming(long, long), removing(long)} {
				got, code := o.run(d)
				checkDisk(t, o, d, got, code, impl.Disk{}, impl.ErrLong)
			}
			checkRead(t, d, long, "", impl.ErrLong)
		}
	}
}

// Of several errors the first one that chapter 12 lists determines.
func TestTheOrderOfCodesOfDisks(t *testing.T) {
	full := wideDisk(24, 2)
	full.Next = 1000000
	size := strings.Repeat("t", 4097)
	for _, v := range []struct {
		o    diskOp
		code int
	}{
		{writing("a b", size), impl.ErrName}, {writing("a b", ""), impl.ErrName}, {writing("new", size), impl.ErrSize}, {writing("L0", size), impl.ErrSize}, {writing("new", ""), impl.ErrFull}, {writing("L0", ""), impl.ErrFull},
		{renaming("zap", "a b"), impl.ErrName}, {renaming("a b", "a b"), impl.ErrName}, {renaming("L0", "a b"), impl.ErrName}, {renaming("zap", "zap"), impl.ErrNone}, {renaming("a b", "zap"), impl.ErrNone}, {renaming("L24", "L0"), impl.ErrNone},
		{renaming("L0", "zap"), 0}, {syncing("a b"), impl.ErrNone}, {syncing("L24"), impl.ErrNone}, {removing("a b"), impl.ErrNone}, {removing("L24"), impl.ErrNone},
	} {
		_, code := v.o.run(full)
		if checkOp(t, v.o, full); code != v.code {
			t.Errorf("%v has the code %d, want %d", v.o, code, v.code)
		}
	}
}

func TestSameDisk(t *testing.T) {
	disks := []impl.Disk{
		emptyDisk(), {Next: 2}, {Next: 1000000}, diskOf(3, "1A", "a1", ""), diskOf(3, "1A", "", "a1"), diskOf(3, "1A", "a1", "a1"), diskOf(4, "1A", "a1", "a1"), diskOf(3, "1A!", "a1", "a1"), diskOf(3, "1B", "a1", "a1"), diskOf(3, "1", "a1", "a1"),
		diskOf(3, "2A", "a2", "a2"), diskOf(3, "1A", "b1", "a1"), diskOf(3, "1A", "a1", "b1"), diskOf(3, "1A", "a1 b1", "a1"), diskOf(3, "1A", "a1", "a1 b1"), diskOf(3, "1A 2B", "a1 b2", "a1"), diskOf(3, "1A 2B", "a2 b1", "a1"), diskOf(3, "1A 2B", "a1 b2", "b1"),
		wideDisk(24, 24), wideDisk(24, 23),
	}
	invalid := notDisks()
	for i, a := range disks {
		for k, b := range disks {
			b.Inodes, b.Now, b.Safe = slices.Clone(b.Inodes), slices.Clone(b.Now), slices.Clone(b.Safe)
			if impl.SameDisk(a, b) != (i == k) {
				t.Errorf("SameDisk(%s, %s) is %v", showDisk(a), showDisk(b), i != k)
			}
		}
		for _, bad := range invalid {
			if impl.SameDisk(a, bad) || impl.SameDisk(bad, a) {
				t.Errorf("SameDisk accepts %s", showDisk(bad))
			}
		}
	}
	// An empty slice and nil are the same.
	empty := impl.Disk{Inodes: []impl.Inode{}, Now: []impl.Slot{}, Safe: make([]impl.Slot, 0, 4), Next: 1}
	if !impl.DiskOK(empty) || !impl.SameDisk(empty, emptyDisk()) || !impl.SameDisk(emptyDisk(), empty) {
		t.Error("a disk with empty slices is not the same as one without slices")
	}
}
