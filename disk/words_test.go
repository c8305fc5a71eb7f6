package disk

import (
	"fmt"
	"slices"

	"consignor/api"
)

// calls are what a disk is asked; the tests hold a Disk against byWords by them.
type calls interface {
	Create(n int) api.Errno
	Append(n int, s string) api.Errno
	Sync(n int) api.Errno
	Truncate(n, size int) api.Errno
	Delete(n int) api.Errno
	Read(n, at, size int) (string, api.Errno)
	Size(n int) (int, api.Errno)
	Files() []int
	Loose() []int
	Free() int
	Up() bool
	Starts() int
	Crash(keep []int) api.Errno
	Start() api.Errno
	Fail(n int, keep []int) api.Errno
}

// aByte is a byte of a file, and whether it is sure.
type aByte struct {
	b    byte
	sure bool
}

// byWords is a disk by the chapter's words: a list of files that rise, and each byte on its own.
type byWords struct {
	capacity int
	numbers  []int
	bytes    [][]aByte // of each number
	down     bool
	starts   int
	failing  bool
	ahead    int
	keep     []int
}

func (w *byWords) there(n int) bool { return slices.Contains(w.numbers, n) }

func (w *byWords) place(n int) int { return slices.Index(w.numbers, n) }

// change does a change that would answer OK; an Append alone is done where it fails.
func (w *byWords) change(isAppend bool, do func()) api.Errno {
	fails := w.failing && w.ahead == 0
	w.ahead--
	if !fails || isAppend {
		do()
	}
	if fails {
		w.Crash(w.keep)
		return api.ErrDown
	}
	return api.OK
}

func (w *byWords) Create(n int) api.Errno {
	if w.down {
		return api.ErrDown
	}
	if n < 0 {
		return api.ErrArg
	}
	if w.there(n) {
		return api.ErrHave
	}
	if len(w.numbers) == 100 {
		return api.ErrFull
	}
	return w.change(false, func() {
		at, _ := slices.BinarySearch(w.numbers, n)
		w.numbers = slices.Insert(w.numbers, at, n)
		w.bytes = slices.Insert(w.bytes, at, nil)
	})
}

func (w *byWords) Append(n int, s string) api.Errno {
	if w.down {
		return api.ErrDown
	}
	if !w.there(n) {
		return api.ErrNone
	}
	all := len(s)
	for _, l := range w.bytes {
		all += len(l)
	}
	if all > w.capacity {
		return api.ErrFull
	}
	return w.change(true, func() {
		for _, b := range []byte(s) {
			w.bytes[w.place(n)] = append(w.bytes[w.place(n)], aByte{b, false})
		}
	})
}

func (w *byWords) Sync(n int) api.Errno {
	if w.down {
		return api.ErrDown
	}
	if !w.there(n) {
		return api.ErrNone
	}
	return w.change(false, func() { allSure(w.bytes[w.place(n)]) })
}

func (w *byWords) Truncate(n, size int) api.Errno {
	if w.down {
		return api.ErrDown
	}
	if !w.there(n) {
		return api.ErrNone
	}
	l := w.bytes[w.place(n)]
	if size < 0 || size > len(l) {
		return api.ErrArg
	}
	return w.change(false, func() { w.bytes[w.place(n)] = l[:size] })
}

func (w *byWords) Delete(n int) api.Errno {
	if w.down {
		return api.ErrDown
	}
	if !w.there(n) {
		return api.ErrNone
	}
	return w.change(false, func() {
		at := w.place(n)
		w.numbers = slices.Delete(w.numbers, at, at+1)
		w.bytes = slices.Delete(w.bytes, at, at+1)
	})
}

func (w *byWords) Read(n, at, size int) (string, api.Errno) {
	if w.down {
		return "", api.ErrDown
	}
	if !w.there(n) {
		return "", api.ErrNone
	}
	l := w.bytes[w.place(n)]
	if at < 0 || size < 0 || at > len(l) || size > len(l) || at+size > len(l) {
		return "", api.ErrArg
	}
	told := []byte{}
	for _, x := range l[at : at+size] {
		told = append(told, x.b)
	}
	return string(told), api.OK
}

func (w *byWords) Size(n int) (int, api.Errno) {
	if w.down {
		return 0, api.ErrDown
	}
	if !w.there(n) {
		return 0, api.ErrNone
	}
	return len(w.bytes[w.place(n)]), api.OK
}

func (w *byWords) Files() []int { return slices.Clone(w.numbers) }

func (w *byWords) Loose() []int {
	told := []int{}
	for _, l := range w.bytes {
		many := 0
		for _, x := range l {
			if !x.sure {
				many++
			}
		}
		told = append(told, many)
	}
	return told
}

func (w *byWords) Free() int {
	room := w.capacity
	for _, l := range w.bytes {
		room -= len(l)
	}
	return room
}

func (w *byWords) Up() bool { return !w.down }

func (w *byWords) Starts() int { return w.starts }

func (w *byWords) Crash(keep []int) api.Errno {
	if w.down {
		return api.ErrDown
	}
	for i, l := range w.bytes {
		stays, more := []aByte{}, 0
		if i < len(keep) {
			more = keep[i]
		}
		for _, x := range l {
			if x.sure {
				stays = append(stays, x)
			} else if more > 0 {
				stays = append(stays, x)
				more--
			}
		}
		allSure(stays)
		w.bytes[i] = stays
	}
	w.down, w.failing = true, false
	return api.OK
}

func (w *byWords) Start() api.Errno {
	if !w.down {
		return api.ErrArg
	}
	w.down = false
	w.starts++
	return api.OK
}

func (w *byWords) Fail(n int, keep []int) api.Errno {
	if w.down {
		return api.ErrDown
	}
	if n < 0 {
		return api.ErrArg
	}
	w.failing, w.ahead, w.keep = true, n, slices.Clone(keep)
	return api.OK
}

func allSure(l []aByte) {
	for i := range l {
		l[i].sure = true
	}
}

// state is all that a disk tells of itself, and of some files that are there, and such as are not.
func state(d calls) string {
	told := fmt.Sprint(d.Up(), d.Starts(), d.Free(), d.Files(), d.Loose())
	for _, n := range append(d.Files(), -1, 0, 77) {
		size, e := d.Size(n)
		all, e2 := d.Read(n, 0, size)
		end, e3 := d.Read(n, 1, size-1)
		_, e4 := d.Read(n, 0, size+1)
		told += fmt.Sprintf(" %d: %d %d %q %d %q %d %d", n, size, int(e), all, int(e2), end, int(e3), int(e4))
	}
	return told
}

// texts are all files' bytes, of a disk that is up.
func texts(d calls) map[int]string {
	told := map[int]string{}
	for _, n := range d.Files() {
		size, _ := d.Size(n)
		told[n], _ = d.Read(n, 0, size)
	}
	return told
}
