package journal

import (
	"fmt"
	"slices"
	"strings"
	"testing"

	"consignor/api"
	"consignor/disk"
	"consignor/records"
)

// record is a payload's.
func record(payload string) string {
	s, _ := records.Put(payload)
	return s
}

// all are the records of payloads, one behind the other.
func all(payloads ...string) string {
	var s strings.Builder
	for _, p := range payloads {
		s.WriteString(record(p))
	}
	return s.String()
}

// change is one of a disk's files.
type change struct {
	call string
	n    int
	size int
	text string
}

func (x change) String() string { return fmt.Sprintf("%s(%d, %d, %.40q)", x.call, x.n, x.size, x.text) }

func creates(n int) change           { return change{call: "Create", n: n} }
func appends(n int, s string) change { return change{call: "Append", n: n, text: s} }
func syncs(n int) change             { return change{call: "Sync", n: n} }
func truncates(n, size int) change   { return change{call: "Truncate", n: n, size: size} }
func deletes(n int) change           { return change{call: "Delete", n: n} }

// do does changes, up to the first one that tells an error.
func do(d *disk.Disk, changes ...change) (e api.Errno) {
	for _, x := range changes {
		switch x.call {
		case "Create":
			e = d.Create(x.n)
		case "Append":
			e = d.Append(x.n, x.text)
		case "Sync":
			e = d.Sync(x.n)
		case "Truncate":
			e = d.Truncate(x.n, x.size)
		case "Delete":
			e = d.Delete(x.n)
		}
		if e != api.OK {
			return e
		}
	}
	return api.OK
}

// aFile is one of a disk: bytes that are sure, and such behind them that are not.
type aFile struct {
	n           int
	sure, loose string
}

func (f aFile) String() string { return fmt.Sprintf("%d: %.40q %.40q", f.n, f.sure, f.loose) }

// diskOf is a disk with files.
func diskOf(t testing.TB, capacity int, files ...aFile) *disk.Disk {
	t.Helper()
	d, e := disk.New(capacity)
	for _, f := range files {
		if e == api.OK {
			e = do(d, creates(f.n), appends(f.n, f.sure), syncs(f.n), appends(f.n, f.loose))
		}
	}
	if e != api.OK {
		t.Fatalf("a disk of %d bytes: %d", capacity, int(e))
	}
	return d
}

// state is all that a disk tells.
func state(d *disk.Disk) string {
	told := fmt.Sprint(d.Up(), d.Starts(), d.Free(), d.Files(), d.Loose())
	for _, n := range d.Files() {
		told += fmt.Sprint(" ", n, ": ") + textOf(d, n)
	}
	return told
}

// textOf is a file's bytes, of a disk that is up.
func textOf(d *disk.Disk, n int) string {
	size, _ := d.Size(n)
	s, _ := d.Read(n, 0, size)
	return s
}

// opened is a journal that may be, of which is told what is wanted.
func opened(t testing.TB, d *disk.Disk, snapshot string, entries ...string) *Journal {
	t.Helper()
	j, s, l, e := Open(d)
	if j == nil || s != snapshot || !slices.Equal(l, entries) || e != api.OK {
		t.Fatalf("Open: %v, %.60q, %.60q, %d; want %.60q, %.60q", j, s, l, int(e), snapshot, entries)
	}
	return j
}

// openFails holds that Open tells an error, and nothing else.
func openFails(t testing.TB, d *disk.Disk, want api.Errno) {
	t.Helper()
	if j, s, l, e := Open(d); j != nil || s != "" || len(l) != 0 || e != want {
		t.Errorf("Open: %v, %.60q, %.60q, %d; want %d", j, s, l, int(e), int(want))
	}
}

// answers holds what a call told.
func answers(t testing.TB, call string, e, want api.Errno) {
	t.Helper()
	if e != want {
		t.Errorf("%.60s: %d; want %d", call, int(e), int(want))
	}
}

// has holds what a journal tells of itself.
func has(t testing.TB, j *Journal, size, entries int) {
	t.Helper()
	if j.Size() != size || j.Entries() != entries {
		t.Errorf("Size %d, Entries %d; want %d, %d", j.Size(), j.Entries(), size, entries)
	}
}

// stands holds that a disk has one file, with payloads' records, all of it sure.
func stands(t testing.TB, d *disk.Disk, n int, payloads ...string) {
	t.Helper()
	isAlone(t, d, n, all(payloads...))
}

// isAlone holds that a disk has one file, of a text that is sure.
func isAlone(t testing.TB, d *disk.Disk, n int, text string) {
	t.Helper()
	if !slices.Equal(d.Files(), []int{n}) || !slices.Equal(d.Loose(), []int{0}) || textOf(d, n) != text {
		t.Errorf("the disk is %.300q; want the file %d of %.300q", state(d), n, text)
	}
}

// isDoneBy holds that a call does just such changes, in their order, up to the first error, which is told: with each of them, and the one behind them, as the one that fails.
func isDoneBy(t testing.TB, made func() *disk.Disk, call func(d *disk.Disk) api.Errno, changes ...change) {
	t.Helper()
	for ahead := range len(changes) + 1 {
		for _, keep := range [][]int{nil, {3, 3, 3}, {99, 99, 99}} {
			d, other := made(), made()
			d.Fail(ahead, keep)
			other.Fail(ahead, keep)
			e, want := call(d), do(other, changes...)
			// A change more, that finds out whether the failure is set still.
			last, lastToo := d.Create(12345), other.Create(12345)
			if e != want || last != lastToo || state(d) != state(other) {
				t.Errorf("failed at change %d of %v, keep %v: %d, %.300q; want %d, %.300q", ahead, changes, keep, int(e), state(d), int(want), state(other))
			}
			d.Start()
			other.Start()
			if state(d) != state(other) {
				t.Errorf("failed at change %d of %v, keep %v: %.300q; want %.300q", ahead, changes, keep, state(d), state(other))
			}
		}
	}
}

// isBroken holds that an Open tells ErrBroke, and does nothing: a failure that is set is so still.
func isBroken(t testing.TB, d *disk.Disk) {
	t.Helper()
	d.Fail(0, nil)
	ahead := state(d)
	openFails(t, d, api.ErrBroke)
	if state(d) != ahead {
		t.Errorf("broken, opened: %.200q; want %.200q", state(d), ahead)
	}
	answers(t, "Sync", d.Sync(d.Files()[0]), api.ErrDown)
}

// isOpenedBy holds what an Open of files tells, and by which changes.
func isOpenedBy(t testing.TB, capacity int, files []aFile, want api.Errno, payloads []string, changes ...change) {
	t.Helper()
	made := func() *disk.Disk { return diskOf(t, capacity, files...) }
	if want == api.ErrBroke {
		isBroken(t, made())
		return
	}
	isDoneBy(t, made, func(d *disk.Disk) api.Errno {
		j, s, l, e := Open(d)
		if e != api.OK && (j != nil || s != "" || len(l) != 0) {
			t.Errorf("Open of %v: %d, and %v, %.60q, %.60q", files, int(e), j, s, l)
		}
		return e
	}, changes...)
	d := made()
	if want != api.OK {
		openFails(t, d, want)
		return
	}
	j := opened(t, d, payloads[0], payloads[1:]...)
	has(t, j, len(all(payloads...)), len(payloads)-1)
	stands(t, d, d.Files()[0], payloads...)
	// It is the journal of that file.
	n := d.Files()[0]
	if d.Free() >= Reserve+9 {
		answers(t, "Append", j.Append("x"), api.OK)
		stands(t, d, n, append(slices.Clone(payloads), "x")...)
	}
}

// byWords is by which changes files are opened, and to which payloads, by the chapter's words; ErrBroke, if they are none.
func byWords(files []aFile) (changes []change, payloads []string, e api.Errno) {
	slices.SortFunc(files, func(a, b aFile) int { return a.n - b.n })
	greatest, ends := -1, 0
	for _, f := range files {
		if l, end := records.Whole(f.sure + f.loose); len(l) > 0 {
			greatest, payloads, ends = f.n, l, end
		}
	}
	if greatest < 0 {
		if len(files) > 1 || len(files) == 1 && files[0].n != 0 {
			return nil, nil, api.ErrBroke
		}
		if len(files) == 1 {
			changes = append(changes, deletes(0))
		}
		return append(changes, creates(0), appends(0, record("")), syncs(0)), []string{""}, api.OK
	}
	for _, f := range files {
		if f.n == greatest && len(f.sure+f.loose) > ends {
			changes = append(changes, truncates(f.n, ends))
		}
	}
	changes = append(changes, syncs(greatest))
	for _, f := range files {
		if f.n != greatest {
			changes = append(changes, deletes(f.n))
		}
	}
	return changes, payloads, api.OK
}

// held is what a journal has: a snapshot and entries, and their records one behind the other.
type held struct {
	payloads []string
	text     string
}

func snapshotOf(payload string) held { return held{[]string{payload}, record(payload)} }

func (h held) with(payload string) held {
	return held{append(slices.Clone(h.payloads), payload), h.text + record(payload)}
}

func (h held) entries() int { return len(h.payloads) - 1 }

// request is what a journal is asked: a Compact, or an Append.
type request struct {
	compact bool
	payload string
}

func (x request) String() string {
	call := "Append"
	if x.compact {
		call = "Compact"
	}
	return fmt.Sprintf("%s(%.20q, %d bytes)", call, x.payload, len(x.payload))
}

func anAppend(payload string) request { return request{false, payload} }
func aCompact(payload string) request { return request{true, payload} }

// failure is one of a disk.
type failure struct {
	ahead int
	keep  []int
}

// story leads a journal through requests and failures, and knows what it is to have: what was acknowledged, and that with what answered ErrDown last.
type story struct {
	t           testing.TB
	d           *disk.Disk
	j           *Journal
	file        int
	sure, maybe held
	failures    []failure
	told        []string
}

func newStory(t testing.TB, capacity int, failures ...failure) *story {
	x := &story{t: t, d: diskOf(t, capacity), file: -1, sure: snapshotOf(""), maybe: snapshotOf(""), failures: failures}
	x.fail()
	x.open()
	return x
}

// fail sets the next failure.
func (x *story) fail() {
	if len(x.failures) > 0 {
		x.d.Fail(x.failures[0].ahead, x.failures[0].keep)
		x.failures = x.failures[1:]
	}
}

func (x *story) errorf(form string, l ...any) {
	x.t.Helper()
	x.t.Fatalf("%s\nbehind %.600s\nthe disk is %.300q", fmt.Sprintf(form, l...), strings.Join(x.told, "; "), state(x.d))
}

// open opens the journal, as often as the disk fails meanwhile.
func (x *story) open() {
	x.t.Helper()
	for {
		j, s, l, e := Open(x.d)
		x.told = append(x.told, fmt.Sprintf("Open %d", int(e)))
		if e == api.OK {
			x.isOpen(j, append([]string{s}, l...))
			return
		}
		if e != api.ErrDown || x.d.Up() {
			x.errorf("Open: %d", int(e))
		}
		x.start()
	}
}

func (x *story) start() {
	x.d.Start()
	x.fail()
}

func (x *story) isOpen(j *Journal, found []string) {
	x.t.Helper()
	switch {
	case slices.Equal(found, x.sure.payloads):
		x.maybe = x.sure
	case slices.Equal(found, x.maybe.payloads):
		x.sure = x.maybe
	default:
		x.errorf("Open: %.60q; want %.60q, or %.60q", found, x.sure.payloads, x.maybe.payloads)
	}
	x.j = j
	if n := x.d.Files(); len(n) != 1 || n[0] < x.file {
		x.errorf("Open: the files are %v; the file was %d", n, x.file)
	}
	x.file = x.d.Files()[0]
	x.isAsKnown()
}

// isAsKnown holds the journal, and its file, against what is known.
func (x *story) isAsKnown() {
	x.t.Helper()
	has(x.t, x.j, len(x.sure.text), x.sure.entries())
	isAlone(x.t, x.d, x.file, x.sure.text)
	if x.t.Failed() {
		x.errorf("not as known")
	}
}

// ask lets the journal do what is asked, and opens it anew, if the disk fails.
func (x *story) ask(s request) api.Errno {
	x.t.Helper()
	want, next, file := api.OK, held{}, x.file
	need := Reserve
	if s.compact {
		next, file, need = snapshotOf(s.payload), x.file+1, 0
	} else {
		next = x.sure.with(s.payload)
	}
	switch {
	case len(s.payload) > api.MaxRecord:
		want = api.ErrLong
	case x.d.Free()-len(s.payload)-8 < need:
		want = api.ErrFull
	}
	ahead := state(x.d)
	e := x.call(s)
	x.told = append(x.told, fmt.Sprintf("%v %d", s, int(e)))
	switch {
	case e == api.ErrDown && want == api.OK && !x.d.Up():
		x.maybe = next
		x.start()
		x.open()
		return e
	case e != want:
		x.errorf("%v: %d; want %d", s, int(e), int(want))
	case e == api.OK:
		x.sure, x.maybe, x.file = next, next, file
	case state(x.d) != ahead:
		x.errorf("%v, refused, leads from %.300q", s, ahead)
	}
	x.isAsKnown()
	return e
}

func (x *story) call(s request) api.Errno {
	if s.compact {
		return x.j.Compact(s.payload)
	}
	return x.j.Append(s.payload)
}

// crash takes the disk down between two requests.
func (x *story) crash(keep ...int) {
	x.t.Helper()
	x.told = append(x.told, "Crash")
	x.d.Crash(keep)
	x.start()
	x.open()
}

// ends lets nothing fail any more, and opens the journal twice: it is the same.
func (x *story) ends() {
	x.t.Helper()
	x.failures = nil
	x.crash()
	ahead := state(x.d)
	x.open()
	if state(x.d) != ahead {
		x.errorf("opened again, from %.300q", ahead)
	}
}
