package journal

import (
	"math"
	"math/rand"
	"slices"
	"strings"
	"testing"

	"consignor/api"
	"consignor/disk"
	"consignor/samples"
)

// enough is a capacity by which nothing here is full.
const enough = 300000

// P8.1: of a disk that is none, or down, nothing is opened, and nothing is done.
func TestOpenNone(t *testing.T) {
	for _, d := range []*disk.Disk{nil, {}, new(disk.Disk)} {
		openFails(t, d, api.ErrNil)
	}
	for _, files := range [][]aFile{nil, {{0, all("S", "a"), "more"}}, {{0, "x", ""}}, {{7, "x", ""}}} {
		d := diskOf(t, enough, files...)
		d.Crash(nil)
		ahead := state(d)
		openFails(t, d, api.ErrDown)
		if state(d) != ahead {
			t.Errorf("down, opened: %.200q; want %.200q", state(d), ahead)
		}
	}
}

// P8.1: without files, or with the file 0 alone, that is not whole, the file 0 is made.
func TestOpenMakes(t *testing.T) {
	made := []change{creates(0), appends(0, "\x00\x00\x00\x00\xc7\x4b\x67\x48"), syncs(0)}
	again := append([]change{deletes(0)}, made...)
	isOpenedBy(t, enough, nil, api.OK, []string{""}, made...)
	torn := samples.Turned(all("S", "a"), 6, 1)
	for _, text := range []string{"", "x", record("")[:7], record("S")[:8], "\x00\x00\x00\x00\x00\x00\x00\x00", "x" + record("a"), torn, strings.Repeat("y", 1000)} {
		isOpenedBy(t, enough, []aFile{{0, text, ""}}, api.OK, []string{""}, again...)
		isOpenedBy(t, enough, []aFile{{0, "", text}}, api.OK, []string{""}, again...)
	}
	// As many bytes as there are just suffice; with fewer the disk's error is told, as often as it is asked.
	isOpenedBy(t, 8, nil, api.OK, []string{""}, made...)
	isOpenedBy(t, 8, []aFile{{0, "much the", ""}}, api.OK, []string{""}, again...)
	for capacity := range 8 {
		isOpenedBy(t, capacity, nil, api.ErrFull, nil, made...)
		isOpenedBy(t, capacity, []aFile{{0, strings.Repeat("x", capacity), ""}}, api.ErrFull, nil, again...)
		d := diskOf(t, capacity)
		openFails(t, d, api.ErrFull)
		openFails(t, d, api.ErrFull)
		stands(t, d, 0)
	}
}

// P8.1: of the file of the greatest number that is whole what is behind its records is cut off, it is synced, and all others are deleted.
func TestOpenFinds(t *testing.T) {
	for _, x := range []struct {
		files    []aFile
		payloads []string
		changes  []change
	}{
		{[]aFile{{0, all(""), ""}}, []string{""}, []change{syncs(0)}},
		{[]aFile{{0, all("S", "a", "", "bc"), ""}}, []string{"S", "a", "", "bc"}, []change{syncs(0)}},
		{[]aFile{{0, "", all("S", "a")}}, []string{"S", "a"}, []change{syncs(0)}},
		{[]aFile{{0, all("S"), all("a") + "x"}}, []string{"S", "a"}, []change{truncates(0, 18), syncs(0)}},
		{[]aFile{{0, all("S", "a") + all("b")[:8], ""}}, []string{"S", "a"}, []change{truncates(0, 18), syncs(0)}},
		{[]aFile{{0, all("S") + "\x00", ""}}, []string{"S"}, []change{truncates(0, 9), syncs(0)}},
		{[]aFile{{0, all("S") + samples.Turned(all("a", "b"), 5, 1), ""}}, []string{"S"}, []change{truncates(0, 9), syncs(0)}},
		{[]aFile{{3, all("S"), ""}}, []string{"S"}, []change{syncs(3)}},
		{[]aFile{{math.MaxInt, all("S"), "x"}}, []string{"S"}, []change{truncates(math.MaxInt, 9), syncs(math.MaxInt)}},
		{[]aFile{{3, all("S"), ""}, {4, "", all("T")[:8]}}, []string{"S"}, []change{syncs(3), deletes(4)}},
		{[]aFile{{3, all("S", "a"), ""}, {4, "", all("T")}}, []string{"T"}, []change{syncs(4), deletes(3)}},
		{[]aFile{{3, "x", ""}, {4, all("T", "a"), ""}}, []string{"T", "a"}, []change{syncs(4), deletes(3)}},
		{[]aFile{{0, "", ""}, {9, all("S"), ""}}, []string{"S"}, []change{syncs(9), deletes(0)}},
		{[]aFile{{0, all("S"), ""}, {9, "", ""}}, []string{"S"}, []change{syncs(0), deletes(9)}},
		{[]aFile{{12, "x", ""}, {10, all("U", "u") + "y", "z"}, {2, all("T"), ""}, {0, "", ""}, {11, "", "w"}, {1, all("S"), "v"}}, []string{"U", "u"}, []change{truncates(10, 18), syncs(10), deletes(0), deletes(1), deletes(2), deletes(11), deletes(12)}},
	} {
		isOpenedBy(t, enough, x.files, api.OK, x.payloads, x.changes...)
	}
	// A snapshot and entries of many bytes, on a disk that is full.
	long := strings.Repeat("\xFF", api.MaxRecord)
	isOpenedBy(t, 65544+65544+8, []aFile{{1, all(long, long, ""), ""}}, api.OK, []string{long, long, ""}, syncs(1))
}

// P8.1: where no file is whole, and there are others than the file 0, nothing is done.
func TestOpenBroke(t *testing.T) {
	many := []aFile{}
	for n := range api.MaxFiles {
		many = append(many, aFile{n, "x", ""})
	}
	for _, files := range [][]aFile{{{1, "", ""}}, {{7, "x", ""}}, {{0, "", ""}, {1, "", ""}}, {{0, "x", "y"}, {3, all("S")[:8], ""}}, {{1, "", "x" + all("S")}, {2, "", ""}}, {{math.MaxInt, "", ""}}, many} {
		isBroken(t, diskOf(t, enough, files...))
	}
	// One that is whole, among 100, is enough.
	many[37].sure = all("S", "a")
	d := diskOf(t, enough, many...)
	opened(t, d, "S", "a")
	stands(t, d, 37, "S", "a")
}

// P8.1, by the chapter's words: all files of three numbers, of contents that are whole, and such as are not.
func TestOpenAll(t *testing.T) {
	contents := []aFile{{-1, "", ""}, {0, "", ""}, {0, "xy", ""}, {0, "", all("")}, {0, all("S", "a"), ""}, {0, all("T"), "x"}, {0, all("U") + all("b")[:4], all("b")[4:] + "y"}, {0, all("V")[:8], ""}}
	for _, kinds := range samples.Texts("\x00\x01\x02\x03\x04\x05\x06\x07", 3) {
		files := []aFile{}
		for n, kind := range []byte(kinds) {
			if f := contents[kind]; f.n == 0 {
				files = append(files, aFile{2 * n, f.sure, f.loose})
			}
		}
		changes, payloads, e := byWords(files)
		isOpenedBy(t, enough, files, e, payloads, changes...)
	}
}

// P8.2: a record is put behind the others, and is synced.
func TestAppend(t *testing.T) {
	d := diskOf(t, enough)
	j := opened(t, d, "")
	payloads := []string{""}
	for _, p := range []string{"ab", "", "c", "\x00\xFF", record("ab"), strings.Repeat("x", api.MaxRecord)} {
		answers(t, "Append", j.Append(p), api.OK)
		payloads = append(payloads, p)
		stands(t, d, 0, payloads...)
		has(t, j, len(all(payloads...)), len(payloads)-1)
	}
	opened(t, d, "", payloads[1:]...)
	made := func() *disk.Disk { return diskOf(t, enough, aFile{5, all("S", "a"), ""}) }
	for _, p := range []string{"b", "", "\x00\x00\x00\x00\x00\x00\x00\x00"} {
		isDoneBy(t, made, func(d *disk.Disk) api.Errno {
			// The sync of an Open is one of the changes.
			j, _, _, e := Open(d)
			if e != api.OK {
				return e
			}
			return j.Append(p)
		}, syncs(5), appends(5, record(p)), syncs(5))
	}
}

// P8.2: what is longer than a payload may be is refused, and what would leave less than the Reserve.
func TestAppendFull(t *testing.T) {
	long := strings.Repeat("x", api.MaxRecord)
	for _, x := range []struct {
		capacity int
		payload  string
		want     api.Errno
	}{
		{8 + 8 + Reserve, "", api.OK}, {8 + 8 + Reserve - 1, "", api.ErrFull},
		{8 + 10 + Reserve, "ab", api.OK}, {8 + 10 + Reserve - 1, "ab", api.ErrFull}, {8 + 10 + Reserve, "abc", api.ErrFull},
		{8 + 65544 + Reserve, long, api.OK}, {8 + 65544 + Reserve - 1, long, api.ErrFull}, {8 + 65544 + Reserve + 1, long + "x", api.ErrLong},
		{8, "", api.ErrFull}, {8, long, api.ErrFull}, {8, long + "x", api.ErrLong}, {1 << 20, long + "x", api.ErrLong}, {1 << 20, long + long + long, api.ErrLong},
	} {
		d := diskOf(t, x.capacity)
		j := opened(t, d, "")
		ahead := state(d)
		e := j.Append(x.payload)
		if e != x.want || e != api.OK && state(d) != ahead {
			t.Errorf("Append of %d bytes, on a disk of %d: %d, %.100q; want %d", len(x.payload), x.capacity, int(e), state(d), int(x.want))
		}
		if e == api.OK {
			has(t, j, 16+len(x.payload), 1)
			stands(t, d, 0, "", x.payload)
			continue
		}
		has(t, j, 8, 0)
		// Nothing was done: a failure that is set is so still.
		d.Fail(0, nil)
		answers(t, "Append, failing", j.Append(x.payload), x.want)
		answers(t, "Create", d.Create(7), api.ErrDown)
	}
	// Other files have their part of the room.
	d := diskOf(t, 8+8+Reserve+3)
	j := opened(t, d, "")
	do(d, creates(9), appends(9, "four"))
	answers(t, "Append", j.Append(""), api.ErrFull)
	do(d, truncates(9, 3))
	answers(t, "Append", j.Append(""), api.OK)
}

// P8.2, P8.3: the disk's error is told, where its files are changed by others.
func TestDiskErrors(t *testing.T) {
	d := diskOf(t, enough)
	j := opened(t, d, "")
	answers(t, "Append", j.Append("a"), api.OK)
	do(d, deletes(0))
	answers(t, "Append, without a file", j.Append("b"), api.ErrNone)
	has(t, j, 17, 1)
	// The new file is made and synced all the same.
	answers(t, "Compact, without a file", j.Compact("S"), api.ErrNone)
	has(t, j, 9, 0)
	stands(t, d, 1, "S")
	answers(t, "Append", j.Append("c"), api.OK)
	stands(t, d, 1, "S", "c")

	do(d, creates(2), appends(2, "x"))
	ahead := state(d)
	answers(t, "Compact, with the next file", j.Compact("T"), api.ErrHave)
	do(d, deletes(2))
	for n := range api.MaxFiles - 1 {
		do(d, creates(100+n))
	}
	answers(t, "Compact, with all files", j.Compact("T"), api.ErrFull)
	for n := range api.MaxFiles - 1 {
		do(d, deletes(100+n))
	}
	do(d, creates(2), appends(2, "x"))
	if state(d) != ahead {
		t.Errorf("refused by the disk, the state is %.200q; want %.200q", state(d), ahead)
	}
	has(t, j, 18, 1)
	// No number is next to the greatest.
	d = diskOf(t, enough, aFile{math.MaxInt, all("S", "a"), ""})
	j = opened(t, d, "S", "a")
	answers(t, "Compact, of the greatest file", j.Compact("T"), api.ErrArg)
	has(t, j, 18, 1)
	stands(t, d, math.MaxInt, "S", "a")
}

// P8.3: the next file is made, and synced, and then the one ahead is deleted.
func TestCompact(t *testing.T) {
	d := diskOf(t, enough)
	j := opened(t, d, "")
	for n, s := range []string{"S", "", strings.Repeat("x", api.MaxRecord), record("T"), "\x00\xFF"} {
		answers(t, "Append", j.Append("a"), api.OK)
		answers(t, "Append", j.Append("b"), api.OK)
		answers(t, "Compact", j.Compact(s), api.OK)
		stands(t, d, n+1, s)
		has(t, j, len(s)+8, 0)
		answers(t, "Append", j.Append("c"), api.OK)
		stands(t, d, n+1, s, "c")
		has(t, j, len(s)+17, 1)
		j = opened(t, d, s, "c")
		has(t, j, len(s)+17, 1)
	}
	made := func() *disk.Disk { return diskOf(t, enough, aFile{5, all("S", "a"), ""}) }
	for _, s := range []string{"T", "", "S"} {
		isDoneBy(t, made, func(d *disk.Disk) api.Errno {
			j, _, _, e := Open(d)
			if e != api.OK {
				return e
			}
			return j.Compact(s)
		}, syncs(5), creates(6), appends(6, record(s)), syncs(6), deletes(5))
	}
}

// P8.3: what is longer than a payload may be is refused, and what there is no room for beside the file that is there.
func TestCompactFull(t *testing.T) {
	long := strings.Repeat("x", api.MaxRecord)
	for _, x := range []struct {
		capacity int
		snapshot string
		want     api.Errno
	}{
		{16, "", api.OK}, {15, "", api.ErrFull}, {8, "", api.ErrFull}, {18, "ab", api.OK}, {18, "abc", api.ErrFull},
		{8 + 65544, long, api.OK}, {8 + 65543, long, api.ErrFull}, {8 + 65545, long + "x", api.ErrLong}, {8, long + "x", api.ErrLong}, {1 << 20, long + long, api.ErrLong},
	} {
		d := diskOf(t, x.capacity)
		j := opened(t, d, "")
		ahead := state(d)
		e := j.Compact(x.snapshot)
		if e != x.want || e != api.OK && state(d) != ahead {
			t.Errorf("Compact of %d bytes, on a disk of %d: %d, %.100q; want %d", len(x.snapshot), x.capacity, int(e), state(d), int(x.want))
		}
		if e == api.OK {
			has(t, j, 8+len(x.snapshot), 0)
			stands(t, d, 1, x.snapshot)
			continue
		}
		has(t, j, 8, 0)
		d.Fail(0, nil)
		answers(t, "Compact, failing", j.Compact(x.snapshot), x.want)
		answers(t, "Create", d.Create(7), api.ErrDown)
	}
}

// P8.4: how many bytes the file has, as far as its records go, and how many entries, behind each Open.
func TestSize(t *testing.T) {
	for _, x := range []struct {
		text          string
		size, entries int
	}{
		{"", 8, 0}, {all(""), 8, 0}, {all("") + "x", 8, 0}, {all("ab"), 10, 0}, {all("ab", "c"), 19, 1}, {all("ab", "c") + all("d")[:8], 19, 1}, {all("ab", "", "", "") + "\x00\x00", 34, 3}, {"x" + all("ab", "c"), 8, 0},
	} {
		d := diskOf(t, enough, aFile{0, x.text, ""})
		j, _, _, _ := Open(d)
		has(t, j, x.size, x.entries)
		answers(t, "Append", j.Append("xyz"), api.OK)
		has(t, j, x.size+11, x.entries+1)
		answers(t, "Compact", j.Compact("xy"), api.OK)
		has(t, j, 10, 0)
	}
}

// P8.4: a journal that is nil, or that Open did not make.
func TestNone(t *testing.T) {
	for _, j := range []*Journal{nil, {}, new(Journal)} {
		for _, payload := range []string{"", "a", strings.Repeat("x", api.MaxRecord+1)} {
			answers(t, "Append of none", j.Append(payload), api.ErrNil)
			answers(t, "Compact of none", j.Compact(payload), api.ErrNil)
			if j.Size() != 0 || j.Entries() != 0 {
				t.Errorf("none: Size %d, Entries %d", j.Size(), j.Entries())
			}
		}
	}
}

// isOver holds that a journal does nothing any more, whatever else is wrong, and tells of itself what it told.
func isOver(t *testing.T, how string, d *disk.Disk, j *Journal, size, entries int) {
	t.Helper()
	ahead := state(d)
	for _, payload := range []string{"", "x", strings.Repeat("x", api.MaxRecord), strings.Repeat("x", api.MaxRecord+1)} {
		answers(t, how+": Append", j.Append(payload), api.ErrDown)
		answers(t, how+": Compact", j.Compact(payload), api.ErrDown)
	}
	if state(d) != ahead {
		t.Errorf("%s: %.200q; want %.200q", how, state(d), ahead)
	}
	has(t, j, size, entries)
}

// A journal whose disk went down is over, also when the disk is up again.
func TestOver(t *testing.T) {
	for how, goesDown := range map[string]func(d *disk.Disk, j *Journal) (size, entries int){
		"Crash":            func(d *disk.Disk, j *Journal) (int, int) { d.Crash(nil); return 18, 1 },
		"a change":         func(d *disk.Disk, j *Journal) (int, int) { d.Fail(0, nil); d.Create(77); return 18, 1 },
		"Append, at 0":     func(d *disk.Disk, j *Journal) (int, int) { d.Fail(0, []int{99}); j.Append("b"); return 18, 1 },
		"Append, at 1":     func(d *disk.Disk, j *Journal) (int, int) { d.Fail(1, []int{99}); j.Append("b"); return 18, 1 },
		"Compact, at 0":    func(d *disk.Disk, j *Journal) (int, int) { d.Fail(0, nil); j.Compact("TT"); return 18, 1 },
		"Compact, at 1":    func(d *disk.Disk, j *Journal) (int, int) { d.Fail(1, []int{9, 99}); j.Compact("TT"); return 18, 1 },
		"Compact, at 2":    func(d *disk.Disk, j *Journal) (int, int) { d.Fail(2, []int{9, 99}); j.Compact("TT"); return 18, 1 },
		"Compact, at 3":    func(d *disk.Disk, j *Journal) (int, int) { d.Fail(3, []int{9, 99}); j.Compact("TT"); return 10, 0 },
		"behind a Compact": func(d *disk.Disk, j *Journal) (int, int) { j.Compact("TT"); d.Crash(nil); return 10, 0 },
	} {
		d := diskOf(t, enough)
		j := opened(t, d, "")
		answers(t, how, j.Compact("S"), api.OK)
		answers(t, how, j.Append("a"), api.OK)
		size, entries := goesDown(d, j)
		if d.Up() {
			t.Errorf("%s: the disk is up", how)
		}
		isOver(t, how, d, j, size, entries)
		d.Start()
		isOver(t, how+", Start", d, j, size, entries)
		other, _, _, e := Open(d)
		answers(t, how+", Open", e, api.OK)
		answers(t, how+", another one", other.Append("mine"), api.OK)
		isOver(t, how+", Open", d, j, size, entries)
		d.Crash(nil)
		d.Start()
		isOver(t, how+", twice", d, j, size, entries)
	}
	// One that was opened behind starts is not over; two of one disk are not, either.
	d := diskOf(t, enough)
	for range 3 {
		d.Crash(nil)
		d.Start()
	}
	j, other := opened(t, d, ""), opened(t, d, "")
	answers(t, "Append", j.Append("a"), api.OK)
	answers(t, "Append", other.Append("b"), api.OK)
	answers(t, "Append", j.Append("c"), api.OK)
	opened(t, d, "", "a", "b", "c")
}

// someRequests are such that a crash may cut each of them off, long records ahead of short ones.
func someRequests() []request {
	return []request{anAppend("abc"), anAppend(""), aCompact("STU"), anAppend(record("d")), aCompact(""), anAppend("e"), aCompact(record("x") + "y")}
}

// isKept leads a journal through requests and failures, up to its end.
func isKept(t testing.TB, capacity int, requests []request, failures ...failure) {
	t.Helper()
	x := newStory(t, capacity, failures...)
	for _, s := range requests {
		x.ask(s)
	}
	x.ends()
}

// P8.5: a failure at each change, and at each one of the Open behind it, with whatever kept, three times.
func TestKept(t *testing.T) {
	keeps := [][]int{nil, {1, 1}, {4, 4}, {7, 7}, {8, 8}, {9, 9}, {10, 10}, {11, 11}, {99, 99}, {99}, {0, 99}}
	for first := range 24 {
		for _, keep := range keeps {
			isKept(t, enough, someRequests(), failure{first, keep})
			for second := range 7 {
				for _, other := range keeps {
					isKept(t, enough, someRequests(), failure{first, keep}, failure{second, other}, failure{second / 2, keep})
				}
			}
		}
	}
}

// P8.5: a failure at the same change of each start, as often as it comes.
func TestKeptAgain(t *testing.T) {
	for ahead := range 12 {
		for kept := range 12 {
			failures := []failure{}
			for i := range 30 {
				failures = append(failures, failure{ahead, []int{kept, kept + i}})
			}
			isKept(t, enough, append(someRequests(), someRequests()...), failures...)
		}
	}
}

// P8.5: as long as each Append leaves the Reserve, a Compact has room.
func TestRoom(t *testing.T) {
	long := strings.Repeat("x", api.MaxRecord)
	for _, capacity := range []int{8 + 8 + Reserve, 80000, 100000, 2 * 65544, 200000, 1 << 20} {
		for _, size := range []int{0, 1, 100, 5000, 9992, 61000, api.MaxRecord} {
			x := newStory(t, capacity)
			for range 3 {
				for range 20 {
					x.ask(anAppend(long[:size]))
				}
				// A snapshot may itself take all the room of a disk that has not enough for two.
				room := x.sure.entries() > 0 || capacity >= 2*65544
				if e := x.ask(aCompact(long)); room && e != api.OK {
					t.Errorf("Compact, on a disk of %d bytes, behind entries of %d: %d", capacity, size, int(e))
				}
			}
		}
	}
}

// someRequest is one of two numbers.
func someRequest(kind, size int) request {
	text := strings.Repeat("xyz\x00", api.MaxRecord/4+1)
	switch kind % 8 {
	case 0:
		return aCompact(text[:size%40])
	case 1:
		return aCompact(text[:api.MaxRecord-2+size%5])
	case 2:
		return anAppend(text[:api.MaxRecord-2+size%5])
	case 3:
		return anAppend(text[:size*200])
	}
	return anAppend(text[size%4 : size%30+4])
}

// isLed leads a journal through what bytes say: requests, crashes and Opens, and failures.
func isLed(t testing.TB, capacity int, s string) {
	t.Helper()
	if capacity < 8 || capacity > api.MaxDisk {
		return
	}
	x := newStory(t, capacity)
	for ; len(s) >= 2; s = s[2:] {
		kind, size := int(s[0]), int(s[1])
		switch kind % 16 {
		case 13:
			x.failures = append(x.failures, failure{size % 5, []int{kind / 16, kind / 16}}, failure{size / 5 % 5, []int{size / 25, size / 25}})
			x.fail()
		case 14:
			x.crash(kind/16, size)
		case 15:
			x.told = append(x.told, "again")
			x.open()
		default:
			x.ask(someRequest(kind, size))
		}
	}
	x.ends()
}

// P8.1 to P8.5: long lists of requests.
func TestLong(t *testing.T) {
	r := rand.New(rand.NewSource(8))
	for range 30 {
		b := make([]byte, 300)
		r.Read(b)
		isLed(t, []int{8, 70000, 80000, 131088, 200000, 1 << 20}[r.Intn(6)]+r.Intn(50), string(b))
	}
}

// P8.1 to P8.5, of any requests: two bytes each.
func FuzzAny(f *testing.F) {
	f.Add(80000, "\x04\x02\x04\x01\x00\x01\x04\x03\x0f\x00")
	f.Add(enough, "\x05\x09\x1d\x07\x04\x10\x00\x20\x06\x03\x0e\xff\x01\x02")
	f.Add(8, "\x04\x00\x00\x00")
	f.Fuzz(func(t *testing.T, capacity int, s string) { isLed(t, capacity, s[:min(len(s), 100)]) })
}

// The chapter's examples.
func TestExamples(t *testing.T) {
	d := diskOf(t, 80000)
	j := opened(t, d, "")
	answers(t, "Append", j.Append("ab"), api.OK)
	answers(t, "Append", j.Append("c"), api.OK)
	has(t, j, 27, 2)
	j = opened(t, d, "", "ab", "c")
	answers(t, "Compact", j.Compact("S"), api.OK)
	answers(t, "Append", j.Append("d"), api.OK)
	j = opened(t, d, "S", "d")
	answers(t, "Append", j.Append(strings.Repeat("x", 10000)), api.ErrFull)
	answers(t, "Append", j.Append(strings.Repeat("x", 65537)), api.ErrLong)
	if Reserve != 70000 {
		t.Errorf("Reserve %d", Reserve)
	}
}

// R4: the list that is told is the caller's own.
func TestListsAreTheirOwn(t *testing.T) {
	d := diskOf(t, enough, aFile{0, all("S", "a", "b"), ""})
	j, _, l, _ := Open(d)
	_ = append(l, "more")
	l[0] = "other"
	slices.Reverse(l)
	answers(t, "Append", j.Append("c"), api.OK)
	has(t, j, 36, 3)
	_, _, again, _ := Open(d)
	answers(t, "Compact", j.Compact("T"), api.OK)
	if !slices.Equal(l, []string{"b", "other"}) || !slices.Equal(again, []string{"a", "b", "c"}) {
		t.Errorf("what was told is %q, and again %q", l, again)
	}
}

// R2: journals know nothing of each other.
func TestSameAgain(t *testing.T) {
	r := rand.New(rand.NewSource(9))
	a, b, other := newStory(t, 200000), newStory(t, 200000), newStory(t, 100000)
	for range 300 {
		s := someRequest(r.Intn(256), r.Intn(256))
		a.ask(s)
		other.ask(someRequest(r.Intn(256), r.Intn(256)))
		b.ask(s)
		if state(a.d) != state(b.d) {
			t.Fatalf("%v: %.200q; again %.200q", s, state(a.d), state(b.d))
		}
	}
}
