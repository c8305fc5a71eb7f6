package disk

import (
	"fmt"
	"maps"
	"math"
	"math/rand"
	"slices"
	"strings"
	"testing"

	"consignor/api"
	"consignor/samples"
)

// step is a call that answers an error, and what it is asked.
type step struct {
	call     string
	n        int
	at, size int
	text     string
	keep     []int
}

func create(n int) step             { return step{call: "Create", n: n} }
func add(n int, s string) step      { return step{call: "Append", n: n, text: s} }
func sync(n int) step               { return step{call: "Sync", n: n} }
func truncate(n, size int) step     { return step{call: "Truncate", n: n, size: size} }
func remove(n int) step             { return step{call: "Delete", n: n} }
func read(n, at, size int) step     { return step{call: "Read", n: n, at: at, size: size} }
func sizeOf(n int) step             { return step{call: "Size", n: n} }
func crash(keep ...int) step        { return step{call: "Crash", keep: keep} }
func start() step                   { return step{call: "Start"} }
func fail(ahead int, k ...int) step { return step{call: "Fail", n: ahead, keep: k} }

func (x step) String() string {
	return fmt.Sprintf("%s(n %d, at %d, size %d, %.40q, %v)", x.call, x.n, x.at, x.size, x.text, x.keep)
}

// do asks a disk for a step.
func (x step) do(d calls) (e api.Errno) {
	switch x.call {
	case "Create":
		return d.Create(x.n)
	case "Append":
		return d.Append(x.n, x.text)
	case "Sync":
		return d.Sync(x.n)
	case "Truncate":
		return d.Truncate(x.n, x.size)
	case "Delete":
		return d.Delete(x.n)
	case "Read":
		_, e = d.Read(x.n, x.at, x.size)
		return e
	case "Size":
		_, e = d.Size(x.n)
		return e
	case "Crash":
		return d.Crash(x.keep)
	case "Start":
		return d.Start()
	}
	return d.Fail(x.n, x.keep)
}

// made is a disk that may be.
func made(t testing.TB, capacity int) *Disk {
	t.Helper()
	d, e := New(capacity)
	if d == nil || e != api.OK {
		t.Fatalf("New(%d): %v, %d", capacity, d, int(e))
	}
	return d
}

// done lets a disk do steps that are to answer OK.
func done(t testing.TB, d *Disk, steps ...step) {
	t.Helper()
	for _, x := range steps {
		answers(t, d, x, api.OK)
	}
}

func answers(t testing.TB, d *Disk, x step, want api.Errno) {
	t.Helper()
	if e := x.do(d); e != want {
		t.Errorf("%v: %d; want %d", x, int(e), int(want))
	}
}

// refused lets a disk do a step that is to answer an error, and holds that nothing changes.
func refused(t testing.TB, d *Disk, x step, want api.Errno) {
	t.Helper()
	ahead := state(d)
	answers(t, d, x, want)
	if behind := state(d); behind != ahead {
		t.Errorf("%v, refused, leads from %.300s to %.300s", x, ahead, behind)
	}
}

// has holds a file's bytes, and how many of them are not sure.
func has(t testing.TB, d *Disk, n int, want string, loose int) {
	t.Helper()
	size, e := d.Size(n)
	if size != len(want) || e != api.OK {
		t.Errorf("Size(%d): %d, %d; want %d", n, size, int(e), len(want))
	}
	if s, e := d.Read(n, 0, size); s != want || e != api.OK {
		t.Errorf("Read(%d): %.60q, %d; want %.60q", n, s, int(e), want)
	}
	at := slices.Index(d.Files(), n)
	if l := d.Loose(); at < 0 || at >= len(l) || l[at] != loose {
		t.Errorf("Files %v, Loose %v; want %d of %d", d.Files(), l, loose, n)
	}
}

// P6.1: a capacity from 0 to 2^20, and a disk without files.
func TestNew(t *testing.T) {
	for _, capacity := range []int{0, 1, 5, 1<<20 - 1, 1 << 20} {
		d := made(t, capacity)
		if !d.Up() || d.Starts() != 0 || d.Free() != capacity || len(d.Files()) != 0 || len(d.Loose()) != 0 {
			t.Errorf("New(%d): %s", capacity, state(d))
		}
		done(t, d, create(0), add(0, ""), add(0, strings.Repeat("x", capacity)))
		refused(t, d, add(0, "x"), api.ErrFull)
	}
	for _, capacity := range []int{-1, 1<<20 + 1, 1 << 32, -1 << 32, math.MinInt, math.MaxInt} {
		if d, e := New(capacity); d != nil || e != api.ErrArg {
			t.Errorf("New(%d): %v, %d", capacity, d, int(e))
		}
	}
}

// everyStep is each call that answers an error, with arguments that may be, and such as may never be.
func everyStep() []step {
	return []step{
		create(0), create(1), create(-1), add(0, "x"), add(9, "x"), add(-1, strings.Repeat("x", 1<<21)), sync(0), sync(9), truncate(0, 0), truncate(0, -1), truncate(9, 9), remove(0), remove(-9),
		read(0, 0, 0), read(0, -1, 0), read(9, 9, 9), sizeOf(0), sizeOf(9), crash(), crash(-1, 1), fail(0), fail(3, 1), fail(-1),
	}
}

// P6.1: of a disk that is none each call tells so.
func TestNone(t *testing.T) {
	for _, d := range []*Disk{nil, {}, new(Disk)} {
		for _, x := range append(everyStep(), start()) {
			answers(t, d, x, api.ErrNil)
		}
		s, e := d.Read(0, 0, 0)
		size, e2 := d.Size(0)
		if s != "" || e != api.ErrNil || size != 0 || e2 != api.ErrNil {
			t.Errorf("none: Read %q, %d, Size %d, %d", s, int(e), size, int(e2))
		}
		if d.Files() != nil || d.Loose() != nil || d.Free() != 0 || d.Up() || d.Starts() != 0 {
			t.Errorf("none: %v %v %d %v %d", d.Files(), d.Loose(), d.Free(), d.Up(), d.Starts())
		}
	}
}

// P6.2: of a disk that is down each call is ErrDown, whatever else is wrong, and changes nothing.
func TestDown(t *testing.T) {
	d := made(t, 5)
	done(t, d, create(0), create(2), add(0, "ab"), crash(1))
	for _, x := range everyStep() {
		refused(t, d, x, api.ErrDown)
	}
	if s, e := d.Read(0, 0, 1); s != "" || e != api.ErrDown {
		t.Errorf("down, Read: %q, %d", s, int(e))
	}
	if size, e := d.Size(0); size != 0 || e != api.ErrDown {
		t.Errorf("down, Size: %d, %d", size, int(e))
	}
	// None of them left a failure behind, either.
	done(t, d, start(), create(1), add(1, "x"), sync(1), truncate(1, 0), remove(1))
	has(t, d, 0, "a", 0)
}

// P6.2: a file is created once, of any number from 0 on, and at most 100 are.
func TestCreate(t *testing.T) {
	d := made(t, 5)
	done(t, d, create(0), create(math.MaxInt), create(7))
	has(t, d, 7, "", 0)
	if l := d.Files(); !slices.Equal(l, []int{0, 7, math.MaxInt}) {
		t.Errorf("Files %v", l)
	}
	for _, n := range []int{-1, math.MinInt} {
		refused(t, d, create(n), api.ErrArg)
	}
	refused(t, d, create(7), api.ErrHave)
	for n := range 97 {
		done(t, d, create(1000-n))
	}
	if many := len(d.Files()); many != 100 {
		t.Errorf("%d files", many)
	}
	refused(t, d, create(1001), api.ErrFull)
	// What is named first is told first.
	refused(t, d, create(-1), api.ErrArg)
	refused(t, d, create(1000), api.ErrHave)
	done(t, d, remove(950), create(1001))
	refused(t, d, create(1002), api.ErrFull)
	done(t, d, add(1001, "abc"), remove(1001), create(1001))
	has(t, d, 1001, "", 0)
}

// P6.2: bytes are put behind a file's, as many as there is room for in all files.
func TestAppend(t *testing.T) {
	d := made(t, 5)
	done(t, d, create(3), add(3, "xyz"))
	has(t, d, 3, "xyz", 3)
	refused(t, d, add(3, "uvw"), api.ErrFull)
	refused(t, d, add(4, "x"), api.ErrNone)
	refused(t, d, add(4, "too many"), api.ErrNone)
	refused(t, d, add(-1, "x"), api.ErrNone)
	done(t, d, create(4), add(4, "\x00"), sync(3), add(3, "\xFF"))
	has(t, d, 3, "xyz\xFF", 1)
	has(t, d, 4, "\x00", 1)
	for _, n := range []int{3, 4} {
		refused(t, d, add(n, "x"), api.ErrFull)
		refused(t, d, add(n, strings.Repeat("x", 1<<21)), api.ErrFull)
		done(t, d, add(n, ""))
	}
	// What is truncated or deleted makes room.
	done(t, d, truncate(3, 2), add(4, "ab"))
	refused(t, d, add(3, "x"), api.ErrFull)
	done(t, d, remove(4), add(3, "abc"))
	has(t, d, 3, "xyabc", 3)
}

// P6.2: a Sync makes all bytes of its file sure, and of no other one.
func TestSync(t *testing.T) {
	d := made(t, 100)
	done(t, d, create(1), create(2), add(1, "abc"), add(2, "de"), sync(1))
	has(t, d, 1, "abc", 0)
	has(t, d, 2, "de", 2)
	refused(t, d, sync(0), api.ErrNone)
	refused(t, d, sync(-1), api.ErrNone)
	done(t, d, sync(1), add(1, "d"))
	has(t, d, 1, "abcd", 1)
	done(t, d, sync(1), sync(2))
	if l := d.Loose(); !slices.Equal(l, []int{0, 0}) {
		t.Errorf("Loose %v", l)
	}
}

// P6.2: the first bytes of a file stay, those of them sure that were.
func TestTruncate(t *testing.T) {
	for _, x := range []struct {
		size, loose int
	}{{0, 0}, {1, 0}, {3, 0}, {4, 1}, {5, 2}} {
		d := made(t, 100)
		done(t, d, create(1), add(1, "abc"), sync(1), add(1, "de"), truncate(1, x.size))
		has(t, d, 1, "abcde"[:x.size], x.loose)
		// What is put behind is not sure, and is not what was there.
		done(t, d, add(1, "X"))
		has(t, d, 1, "abcde"[:x.size]+"X", x.loose+1)
		done(t, d, crash(), start())
		has(t, d, 1, "abcde"[:x.size-x.loose], 0)
	}
	d := made(t, 100)
	done(t, d, create(1), add(1, "abc"))
	for _, size := range []int{-1, 4, math.MinInt, math.MaxInt, 1 << 32} {
		refused(t, d, truncate(1, size), api.ErrArg)
		refused(t, d, truncate(0, size), api.ErrNone)
	}
	refused(t, d, truncate(0, 0), api.ErrNone)
	refused(t, d, truncate(-1, 0), api.ErrNone)
}

// P6.2: a file that is deleted is gone, with its bytes, and no other one is.
func TestDelete(t *testing.T) {
	d := made(t, 5)
	done(t, d, create(1), create(2), add(1, "abc"), sync(1), add(2, "de"), remove(1))
	has(t, d, 2, "de", 2)
	if free := d.Free(); free != 3 {
		t.Errorf("Free %d", free)
	}
	for _, x := range []step{remove(1), remove(-1), sync(1), add(1, ""), truncate(1, 0), read(1, 0, 0), sizeOf(1)} {
		refused(t, d, x, api.ErrNone)
	}
	done(t, d, crash(9, 9), start())
	has(t, d, 2, "de", 0)
	done(t, d, create(1))
	has(t, d, 1, "", 0)
}

// P6.2: all pieces of a file, and such as go beyond its end.
func TestRead(t *testing.T) {
	d := made(t, 10)
	done(t, d, create(3), add(3, "xy"), sync(3), add(3, "z"))
	for at := range 4 {
		for size := range 4 {
			if at+size > 3 {
				refused(t, d, read(3, at, size), api.ErrArg)
			} else if s, e := d.Read(3, at, size); s != "xyz"[at:at+size] || e != api.OK {
				t.Errorf("Read(3, %d, %d): %q, %d", at, size, s, int(e))
			}
		}
	}
	for _, x := range [][2]int{{-1, 0}, {0, -1}, {-1, -1}, {-1, 2}, {4, 0}, {4, -1}, {5, 1}, {0, 4}, {math.MaxInt, 0}, {0, math.MaxInt}, {math.MaxInt, math.MaxInt}, {1, math.MaxInt}, {math.MaxInt, 1}, {math.MaxInt, -1}, {math.MinInt, 0}, {math.MinInt, math.MinInt}, {0, math.MinInt}, {3, math.MinInt}, {1 << 32, 0}} {
		if s, e := d.Read(3, x[0], x[1]); s != "" || e != api.ErrArg {
			t.Errorf("Read(3, %d, %d): %q, %d", x[0], x[1], s, int(e))
		}
		if s, e := d.Read(4, x[0], x[1]); s != "" || e != api.ErrNone {
			t.Errorf("Read(4, %d, %d): %q, %d", x[0], x[1], s, int(e))
		}
	}
	if size, e := d.Size(4); size != 0 || e != api.ErrNone {
		t.Errorf("Size(4): %d, %d", size, int(e))
	}
	// What was read stays as it is.
	s, _ := d.Read(3, 0, 3)
	done(t, d, truncate(3, 0), add(3, "abc"))
	if s != "xyz" {
		t.Errorf("what was read is %q", s)
	}
}

// P6.3: what is told of a disk, up and down.
func TestTold(t *testing.T) {
	d := made(t, 20)
	done(t, d, create(9), create(0), create(4), add(9, "abc"), add(0, "de"), add(4, "f"), sync(9), add(9, "gh"), sync(4))
	tells := func(up bool, starts, free int, files, loose []int) {
		t.Helper()
		if d.Up() != up || d.Starts() != starts || d.Free() != free || !slices.Equal(d.Files(), files) || !slices.Equal(d.Loose(), loose) {
			t.Errorf("told %s; want %v %d %d %v %v", state(d), up, starts, free, files, loose)
		}
	}
	tells(true, 0, 12, []int{0, 4, 9}, []int{2, 0, 2})
	done(t, d, crash(1, 1, 1))
	tells(false, 0, 14, []int{0, 4, 9}, []int{0, 0, 0})
	done(t, d, start())
	tells(true, 1, 14, []int{0, 4, 9}, []int{0, 0, 0})
	refused(t, d, start(), api.ErrArg)
	done(t, d, add(4, "x"), remove(0), crash())
	refused(t, d, crash(), api.ErrDown)
	tells(false, 1, 15, []int{4, 9}, []int{0, 0})
	done(t, d, start(), remove(4), remove(9))
	tells(true, 2, 20, nil, nil)
}

// P6.4: of what is not sure as much stays as is kept at the file's place, from the front.
func TestCrash(t *testing.T) {
	for _, x := range []struct {
		keep  []int
		files [3]string
	}{
		{nil, [3]string{"", "abc", ""}}, {[]int{}, [3]string{"", "abc", ""}}, {[]int{0, 0, 0}, [3]string{"", "abc", ""}},
		{[]int{1}, [3]string{"g", "abc", ""}}, {[]int{2}, [3]string{"gh", "abc", ""}}, {[]int{3}, [3]string{"gh", "abc", ""}}, {[]int{-1, 1}, [3]string{"", "abcd", ""}}, {[]int{0, 1, 2}, [3]string{"", "abcd", "kl"}},
		{[]int{1, 2, 3}, [3]string{"g", "abcde", "klm"}}, {[]int{9, 9, 9}, [3]string{"gh", "abcdef", "klm"}}, {[]int{9, 9, 9, 9, 9}, [3]string{"gh", "abcdef", "klm"}}, {[]int{-9, -1, -3}, [3]string{"", "abc", ""}},
		{[]int{math.MinInt, math.MinInt, math.MinInt}, [3]string{"", "abc", ""}}, {[]int{math.MaxInt, math.MaxInt, math.MaxInt}, [3]string{"gh", "abcdef", "klm"}}, {[]int{1 << 32, 1 << 32, -1 << 32}, [3]string{"gh", "abcdef", ""}},
	} {
		d := made(t, 100)
		done(t, d, create(8), add(8, "klm"), create(2), create(5), add(2, "gh"), add(5, "abc"), sync(5), add(5, "def"))
		done(t, d, crash(x.keep...), start())
		for i, n := range []int{2, 5, 8} {
			has(t, d, n, x.files[i], 0)
		}
	}
}

// eachChange is one of each kind, of a disk with the file 1 of the bytes ab, of which a is sure.
func eachChange() []step {
	return []step{create(2), create(0), add(1, "cde"), add(1, ""), sync(1), truncate(1, 2), truncate(1, 1), truncate(1, 0), remove(1)}
}

// withBoth is a Disk and one by words, behind the same steps.
func withBoth(t *testing.T, capacity int, steps ...step) (*Disk, *byWords) {
	t.Helper()
	d, w := made(t, capacity), &byWords{capacity: capacity}
	for _, x := range steps {
		if e, want := x.do(d), x.do(w); e != want {
			t.Errorf("%v: %d; want %d", x, int(e), int(want))
		}
	}
	return d, w
}

// P6.5: so many changes are done, and the next one fails; it is done just if it is an Append.
func TestFail(t *testing.T) {
	ahead := []step{create(1), add(1, "a"), sync(1), add(1, "b")}
	for _, keep := range [][]int{nil, {0}, {1}, {2}, {9}, {-1}, {0, 9}, {9, 9}} {
		for _, x := range eachChange() {
			d := made(t, 10)
			done(t, d, ahead...)
			done(t, d, fail(0, keep...))
			answers(t, d, x, api.ErrDown)
			if d.Up() || d.Starts() != 0 {
				t.Errorf("%v, failed: up %v, starts %d", x, d.Up(), d.Starts())
			}
			// As if all but an Append had not been asked, and the disk then crashed.
			other := made(t, 10)
			done(t, other, ahead...)
			if x.call == "Append" {
				done(t, other, x)
			}
			done(t, other, crash(keep...))
			if state(d) != state(other) {
				t.Errorf("%v, failed, keep %v: %s; want %s", x, keep, state(d), state(other))
			}
			done(t, d, start())
			done(t, other, start())
			if state(d) != state(other) {
				t.Errorf("%v, failed, keep %v: %s; want %s", x, keep, state(d), state(other))
			}
			// It is not set any more.
			done(t, d, create(7), add(7, "x"), sync(7), truncate(7, 0), remove(7))
		}
	}
}

// P6.5: changes alone are counted, those that answer OK, and each of them.
func TestFailCounts(t *testing.T) {
	changes := []step{create(1), add(1, "abc"), sync(1), sync(1), add(1, ""), truncate(1, 3), truncate(1, 2), create(2), remove(1)}
	others := []step{create(-1), create(0), add(0, "much too long"), add(9, ""), sync(9), truncate(9, 0), truncate(0, 1), remove(9), read(0, 0, 0), read(0, 0, 1), sizeOf(0), sizeOf(9), start(), fail(-1)}
	for n := range len(changes) + 1 {
		d := made(t, 10)
		done(t, d, create(0), fail(n, 9, 9, 9))
		for i, x := range changes {
			for _, y := range others {
				if i <= n && y.do(d) == api.ErrDown {
					t.Errorf("%v, ahead of change %d: ErrDown; want it from change %d on", y, i, n)
				}
			}
			want := api.OK
			if i >= n {
				want = api.ErrDown
			}
			answers(t, d, x, want)
		}
		if d.Up() != (n == len(changes)) {
			t.Errorf("behind %d changes, with a failure at %d: up %v", len(changes), n, d.Up())
		}
	}
}

// P6.5: a failure stands in the place of one that was, also of one that was to come sooner; a wrong one does not; and a disk that goes down has none any more.
func TestFailAgain(t *testing.T) {
	for _, x := range []struct {
		steps []step
		ahead int // changes that are done behind them; -1: all
	}{
		{[]step{fail(0), fail(2)}, 2}, {[]step{fail(2), fail(0)}, 0}, {[]step{fail(1), add(1, "x"), fail(1)}, 1}, {[]step{fail(3), fail(3), fail(3)}, 3},
		{[]step{fail(1), fail(-1)}, 1}, {[]step{fail(1), crash(), start()}, -1}, {[]step{fail(0), crash(), fail(1), start()}, -1}, {[]step{fail(0), sync(1), start()}, -1}, {[]step{fail(0), sync(1), start(), fail(1)}, 1}, {[]step{fail(math.MaxInt)}, -1}, {[]step{fail(1 << 32)}, -1}, {[]step{fail(math.MinInt)}, -1},
	} {
		d, _ := withBoth(t, 10, append([]step{create(1)}, x.steps...)...)
		for i := range 6 {
			want := api.OK
			if x.ahead >= 0 && i >= x.ahead {
				want = api.ErrDown
			}
			answers(t, d, sync(1), want)
		}
	}
}

// P6.5: what the last Fail keeps is kept, of each of 100 files, as the list was when it was handed in.
func TestFailKeeps(t *testing.T) {
	d := made(t, 1000)
	for n := range 100 {
		done(t, d, create(99-n), add(99-n, "abc"))
	}
	keep := []int{}
	for n := range 120 {
		keep = append(keep, n%5-1)
	}
	done(t, d, fail(0, slices.Repeat([]int{3}, 100)...))
	if e := d.Fail(1, keep); e != api.OK {
		t.Errorf("Fail: %d", int(e))
	}
	for i := range keep {
		keep[i] = 3
	}
	done(t, d, sync(0))
	answers(t, d, add(1, "de"), api.ErrDown)
	done(t, d, start())
	has(t, d, 0, "abc", 0)
	for n := 1; n < 100; n++ {
		has(t, d, n, "abc"[:max(n%5-1, 0)], 0)
	}
}

// shortSteps are those that all short lists are made of, each named by a byte.
func shortSteps() map[byte]step {
	return map[byte]step{
		'a': create(0), 'b': create(1), 'c': add(0, "xy"), 'd': add(1, "z"), 'e': sync(0), 'f': sync(1), 'g': truncate(0, 1), 'h': remove(0), 'i': crash(1), 'j': crash(0, 1), 'k': start(), 'l': fail(0, 1, 1), 'm': fail(1, 3), 'n': add(0, ""),
	}
}

// P6.2 to P6.5: all short lists of steps, against the words.
func TestAllShort(t *testing.T) {
	named := shortSteps()
	letters := string(slices.Sorted(maps.Keys(named)))
	for _, ahead := range [][]step{nil, {create(0), create(1), add(0, "ab"), sync(0), add(0, "c"), add(1, "d")}} {
		for _, list := range samples.Texts(letters, 4) {
			steps := slices.Clone(ahead)
			for _, b := range []byte(list) {
				steps = append(steps, named[b])
			}
			d, w := withBoth(t, 6, steps...)
			if got, want := state(d), state(w); got != want {
				t.Errorf("%s: %s; want %s", list, got, want)
			}
			if t.Failed() {
				return
			}
		}
	}
}

// someStep is a step of three numbers from 0 to 255; most of them are of files that may be there.
func someStep(kind, n, size int) step {
	file, keep := n%4, []int{size%5 - 1, n%7 - 1, size / 50}[:size%4]
	switch kind % 10 {
	case 0:
		return create(file - n/200)
	case 1, 2, 3:
		return add(file, strings.Repeat(string([]byte{byte('a' + size%26), byte(n)}), size%9))
	case 4, 5:
		return sync(file)
	case 6:
		return truncate(file, size%20-1)
	case 7:
		if n > 100 {
			return truncate(file, 0)
		}
		return remove(file)
	case 8:
		if size > 128 {
			return crash(keep...)
		}
		return fail(size%6-1, keep...)
	}
	return start()
}

// isSafe leads a disk through steps, and holds at each that takes it down: what was sure is there, of each file there is a beginning of what it had, all is sure, and another crash changes nothing.
func isSafe(t *testing.T, d *Disk, steps []step) {
	t.Helper()
	sure := texts(d)
	for _, x := range steps {
		had := texts(d)
		e := x.do(d)
		if d.Up() {
			if e == api.OK {
				note(sure, had, x)
			}
			continue
		}
		if x.call == "Append" {
			had[x.n] += x.text
		}
		done(t, d, start())
		now := texts(d)
		beginAs(t, x, now, sure)
		beginAs(t, x, had, now)
		for _, keep := range [][]int{nil, {0, 0, 0, 0}, {9, 9, 9, 9}, {-1, 1}} {
			if l := d.Loose(); slices.ContainsFunc(l, func(loose int) bool { return loose != 0 }) {
				t.Errorf("%v: Loose %v", x, l)
			}
			done(t, d, crash(keep...), start())
			if again := texts(d); !maps.Equal(again, now) {
				t.Errorf("%v, and Crash(%v): %v; want %v", x, keep, again, now)
			}
		}
		sure = now
	}
}

// note takes in what is sure of each file behind a step that was done.
func note(sure, had map[int]string, x step) {
	switch x.call {
	case "Create":
		sure[x.n] = ""
	case "Sync":
		sure[x.n] = had[x.n]
	case "Truncate":
		sure[x.n] = sure[x.n][:min(x.size, len(sure[x.n]))]
	case "Delete":
		delete(sure, x.n)
	}
}

// beginAs holds that there are the same files, and that each begins with what it has among others.
func beginAs(t *testing.T, x step, files, others map[int]string) {
	t.Helper()
	if len(files) != len(others) {
		t.Errorf("%v: %v beside %v", x, files, others)
	}
	for n, text := range others {
		if all, there := files[n]; !there || !strings.HasPrefix(all, text) {
			t.Errorf("%v: the file %d is %q beside %q", x, n, all, text)
		}
	}
}

// P6.6: a failure at each change of a list, with whatever kept.
func TestSafe(t *testing.T) {
	steps := []step{create(2), add(2, "abc"), sync(2), create(0), add(2, "de"), add(0, "fgh"), truncate(2, 4), add(2, "i"), sync(0), create(1), add(0, "jk"), truncate(0, 1), add(1, "lmno"), add(0, "p"), truncate(2, 2), remove(0), sync(1), add(1, "q"), create(0), add(0, "r"), sync(2)}
	for ahead := range steps {
		for _, kept := range samples.Texts("\x00\x01\x02\x09", 3) {
			keep := []int{}
			for _, b := range []byte(kept) {
				keep = append(keep, int(b))
			}
			d := made(t, 100)
			isSafe(t, d, append([]step{fail(ahead, keep...)}, steps...))
			if starts := d.Starts(); starts != 5 {
				t.Errorf("failed at change %d: %d starts", ahead, starts)
			}
			d = made(t, 100)
			isSafe(t, d, append(slices.Clone(steps[:ahead]), crash(keep...)))
		}
	}
}

// isAsked leads a disk, and one by words, through steps, and holds what they tell against each other, and P6.6.
func isAsked(t *testing.T, capacity int, steps []step) {
	t.Helper()
	d, w := made(t, capacity), &byWords{capacity: capacity}
	for i, x := range steps {
		e, want := x.do(d), x.do(w)
		if got, told := state(d), state(w); e != want || got != told {
			t.Fatalf("step %d, %v: %d, %s; want %d, %s", i, x, int(e), got, int(want), told)
		}
	}
	isSafe(t, made(t, capacity), steps)
}

// P6.2 to P6.6: long lists of steps.
func TestLong(t *testing.T) {
	r := rand.New(rand.NewSource(6))
	for range 300 {
		steps := []step{}
		for range 150 {
			steps = append(steps, someStep(r.Intn(256), r.Intn(256), r.Intn(256)))
		}
		isAsked(t, r.Intn(60), steps)
	}
}

// P6.2 to P6.6, of any steps: three bytes each.
func FuzzAny(f *testing.F) {
	f.Add(5, "\x00\x03\x00\x01\x03\x03\x04\x03\x00\x01\x03\x02\x08\x01\xFF\x09\x00\x00")
	f.Add(100, "\x00\x01\x00\x08\x02\x01\x01\x01\x05\x04\x01\x00\x09\x00\x00")
	f.Add(0, "")
	f.Fuzz(func(t *testing.T, capacity int, s string) {
		if capacity < 0 || capacity > api.MaxDisk {
			if d, e := New(capacity); d != nil || e != api.ErrArg {
				t.Errorf("New(%d): %v, %d", capacity, d, int(e))
			}
			return
		}
		steps := []step{}
		for ; len(s) >= 3 && len(steps) < 200; s = s[3:] {
			steps = append(steps, someStep(int(s[0]), int(s[1]), int(s[2])))
		}
		isAsked(t, capacity, steps)
	})
}

// The chapter's examples.
func TestExamples(t *testing.T) {
	d := made(t, 5)
	done(t, d, create(3), add(3, "xyz"))
	answers(t, d, add(3, "uvw"), api.ErrFull)
	answers(t, d, add(4, "x"), api.ErrNone)
	if free := d.Free(); free != 2 {
		t.Errorf("Free %d", free)
	}
	if s, e := d.Read(3, 1, 2); s != "yz" || e != api.OK {
		t.Errorf("Read: %q, %d", s, int(e))
	}
	answers(t, d, read(3, 2, 2), api.ErrArg)
	done(t, d, sync(3), add(3, "uv"), crash(1), start())
	has(t, d, 3, "xyzu", 0)
	answers(t, d, truncate(3, 5), api.ErrArg)
	done(t, d, truncate(3, 2), fail(0, 1))
	answers(t, d, add(3, "tt"), api.ErrDown)
	if d.Up() {
		t.Error("up behind the change that fails")
	}
	done(t, d, start())
	has(t, d, 3, "xyt", 0)
}

// R4: what is handed in stays as it was; lists that are told are the caller's own.
func TestListsAreTheirOwn(t *testing.T) {
	d := made(t, 100)
	done(t, d, create(1), create(2), create(3), add(1, "abc"), add(2, "def"), add(3, "ghi"))
	keep := []int{2, -1, 9, 7, 8}
	done(t, d, fail(0, keep[:3]...), crash(keep[:3]...), start())
	done(t, d, fail(0, keep...))
	answers(t, d, sync(1), api.ErrDown)
	if !slices.Equal(keep, []int{2, -1, 9, 7, 8}) {
		t.Errorf("handed in, the list is %v", keep)
	}
	done(t, d, start(), add(1, "x"), add(3, "yz"))
	files, loose := d.Files(), d.Loose()
	_, _ = append(files, 9), append(loose, 9)
	files[0], loose[0] = 77, 77
	if !slices.Equal(d.Files(), []int{1, 2, 3}) || !slices.Equal(d.Loose(), []int{1, 0, 2}) {
		t.Errorf("told again: %v, %v", d.Files(), d.Loose())
	}
	done(t, d, remove(2), sync(1))
	if !slices.Equal(files, []int{77, 2, 3}) || !slices.Equal(loose, []int{77, 0, 2}) {
		t.Errorf("what was told is %v, %v", files, loose)
	}
}

// R2: disks know nothing of each other, and what is asked alone changes nothing.
func TestSameAgain(t *testing.T) {
	r := rand.New(rand.NewSource(7))
	a, b := made(t, 40), made(t, 40)
	other := made(t, 40)
	for i := range 2000 {
		x := someStep(r.Intn(256), r.Intn(256), r.Intn(256))
		someStep(r.Intn(256), r.Intn(256), r.Intn(256)).do(other)
		state(a)
		e, again := x.do(a), x.do(b)
		if e != again || i%10 == 0 && state(a) != state(b) {
			t.Fatalf("step %d, %v: %d, %s; again %d, %s", i, x, int(e), state(a), int(again), state(b))
		}
	}
}
