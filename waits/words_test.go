package waits

import (
	"fmt"
	"math"
	"slices"
	"testing"

	"consignor/api"
)

// calls are what waits are asked; the tests hold a Waits against byWords by them.
type calls interface {
	Start(k api.Key, now int)
	Due(k api.Key, now int)
	Stop(k api.Key)
	Again(k api.Key, now int) bool
	Tick(now int) []api.Key
	List() []Wait
}

// byWords is waits by the chapter's words: a place for each key that may be, in their order, of how often it was asked for (below 0: it does not wait).
type byWords [61][6]struct {
	tries, next int
	parked      bool
}

func newByWords() *byWords {
	w := &byWords{}
	for order := range w {
		for deed := range w[order] {
			w[order][deed].tries = -1
		}
	}
	return w
}

// gapByWords is Gap as the chapter has it, doubled try by try.
func gapByWords(tries int) int {
	if tries <= 0 {
		return 0
	}
	gap := 1
	for n := 1; n < tries; n++ {
		if gap *= 2; gap > 16 {
			return 16
		}
	}
	return gap
}

// between is a tick as the chapter has it.
func between(now int) int {
	switch {
	case now < 0:
		return 0
	case now > 1099511627776:
		return 1099511627776
	}
	return now
}

func mayBe(k api.Key) bool { return k.Order > 0 && k.Order < 61 && k.Deed > -1 && k.Deed < 6 }

// lay has a key wait anew.
func (w *byWords) lay(k api.Key, tries, next int) {
	if mayBe(k) {
		x := &w[k.Order][k.Deed]
		x.tries, x.next, x.parked = tries, next, false
	}
}

func (w *byWords) Start(k api.Key, now int) { w.lay(k, 1, between(now)+1) }
func (w *byWords) Due(k api.Key, now int)   { w.lay(k, 0, between(now)) }
func (w *byWords) Stop(k api.Key)           { w.lay(k, -1, 0) }

func (w *byWords) Again(k api.Key, now int) bool {
	if !mayBe(k) || w[k.Order][k.Deed].tries < 0 {
		return false
	}
	w.Start(k, now)
	return true
}

func (w *byWords) Tick(now int) (told []api.Key) {
	for order := range w {
		for deed := range w[order] {
			x := &w[order][deed]
			switch {
			case x.tries < 0, x.parked, x.next > between(now):
			case x.tries == 5:
				x.parked = true
			default:
				x.tries++
				x.next = between(now) + gapByWords(x.tries)
				told = append(told, api.Key{Order: order, Deed: deed})
			}
		}
	}
	return told
}

func (w *byWords) List() (l []Wait) {
	for order := range w {
		for deed, x := range w[order] {
			if x.tries >= 0 {
				l = append(l, Wait{Key: api.Key{Order: order, Deed: deed}, Tries: x.tries, Next: x.next, Parked: x.parked})
			}
		}
	}
	return l
}

// key is the one of an order and a deed.
func key(order, deed int) api.Key { return api.Key{Order: order, Deed: deed} }

// keysThatMayBe are all, rising.
func keysThatMayBe() (l []api.Key) {
	for order := 1; order <= 60; order++ {
		for deed := range 6 {
			l = append(l, key(order, deed))
		}
	}
	return l
}

// keysThatAreNone are such as differ from one that may be by their order, their deed, or both; also in lower bits alone.
func keysThatAreNone() (l []api.Key) {
	ends := []int{math.MinInt, math.MinInt + 1, -1 << 32, -61, -60, -6, -1, 61, 62, 256, 257, 1 << 32, 1<<32 + 1, math.MaxInt - 1, math.MaxInt}
	for _, n := range append(ends, 0) {
		l = append(l, key(n, 0), key(n, 3), key(n, 5), key(n, n))
	}
	for _, n := range append(ends, 6, 7, 60) {
		l = append(l, key(1, n), key(30, n), key(60, n))
	}
	return l
}

// ticks are some that are as they are told, and ends of what is none.
func ticks() []int {
	return []int{
		math.MinInt, math.MinInt + 1, math.MinInt + 16, -1 << 41, -1 << 40, -17, -16, -1, 0, 1, 2, 15, 16, 17, 1000, 1 << 31, 1 << 32,
		1<<40 - 17, 1<<40 - 16, 1<<40 - 1, 1 << 40, 1<<40 + 1, 1<<40 + 15, 1<<40 + 16, 1<<40 + 17, 1 << 41, math.MaxInt - 16, math.MaxInt - 1, math.MaxInt,
	}
}

// is holds what a call tells.
func is(t testing.TB, call string, told, want bool) {
	t.Helper()
	if told != want {
		t.Fatalf("%s: %v; want %v", call, told, want)
	}
}

// waitFor holds all that waits.
func waitFor(t testing.TB, w *Waits, want ...Wait) {
	t.Helper()
	for range 2 {
		if l := w.List(); !slices.Equal(l, want) {
			t.Fatalf("List: %v; want %v", l, want)
		}
	}
}

// tells has a tick come, and holds what is told.
func tells(t testing.TB, w *Waits, now int, want ...api.Key) {
	t.Helper()
	if l := w.Tick(now); !slices.Equal(l, want) {
		t.Fatalf("Tick(%d): %v; want %v", now, l, want)
	}
}

// begun is waits in which one deed waits since a tick, and was told so often behind that; six times: it is parked.
func begun(k api.Key, now, told int) *Waits {
	w := New()
	w.Start(k, now)
	for range told {
		now = w.List()[0].Next
		w.Tick(now)
	}
	return w
}

// step is a thing that is done with waits: s starts, d is due, o stops, a is again, t ticks.
type step struct {
	call byte
	k    api.Key
	now  int
}

func (s step) String() string {
	return fmt.Sprintf("%c %d %d at %d", s.call, s.k.Order, s.k.Deed, s.now)
}

// do does a step, and is what was told.
func do(w calls, s step) (told []api.Key, ok bool) {
	switch s.call {
	case 's':
		w.Start(s.k, s.now)
	case 'd':
		w.Due(s.k, s.now)
	case 'o':
		w.Stop(s.k)
	case 'a':
		return nil, w.Again(s.k, s.now)
	default:
		return w.Tick(s.now), false
	}
	return nil, false
}

// agree does a list of steps with waits and with such by the chapter's words, and holds one against the other, and against what follows, behind each.
func agree(t testing.TB, l []step) *Waits {
	t.Helper()
	w, words, asked := New(), newByWords(), map[api.Key][]int{}
	for at, s := range l {
		told, ok := do(w, s)
		if want, may := do(words, s); !slices.Equal(told, want) || ok != may {
			t.Fatalf("%v: %v, %v; want %v, %v", l[:at+1], told, ok, want, may)
		}
		if list := w.List(); !slices.Equal(list, words.List()) {
			t.Fatalf("%v: %v; want %v", l[:at+1], list, words.List())
		}
		count(asked, s, told, ok)
		for k, when := range asked {
			if len(when) > 5 || len(when) == 5 && when[4]-when[0] < 15 {
				t.Fatalf("%v: %v was asked for at %v", l[:at+1], k, when)
			}
		}
	}
	soon(t, w, l)
	return w
}

// count keeps at which ticks each deed was asked for since it began anew.
func count(asked map[api.Key][]int, s step, told []api.Key, ok bool) {
	switch {
	case s.call == 's', s.call == 'a' && ok:
		asked[s.k] = []int{between(s.now)}
	case s.call == 'd', s.call == 'o':
		delete(asked, s.k)
	}
	for _, k := range told {
		asked[k] = append(asked[k], between(s.now))
	}
}

// soon holds that each that waits, and is not parked, is told within MaxWait ticks of those that come behind all steps, or parked.
func soon(t testing.TB, w *Waits, l []step) {
	t.Helper()
	w = w.Copy()
	latest, open := 0, map[api.Key]bool{}
	for _, s := range l {
		latest = max(latest, between(s.now))
	}
	if latest > 1<<40-16 {
		return // there are not so many ticks any more
	}
	for _, x := range w.List() {
		open[x.Key] = !x.Parked
	}
	for i := range 16 {
		for _, k := range w.Tick(latest + 1 + i) {
			open[k] = false
		}
	}
	for _, x := range w.List() {
		if open[x.Key] && !x.Parked {
			t.Fatalf("%v: behind 16 ticks from %d on, %v was not told, nor parked", l, latest, x)
		}
	}
}

// stepsOf are those of a text, four bytes each; the tick goes on by what a step says, as a clock does, but for some that stand still, go back, or are none.
func stepsOf(s string, now int) (l []step) {
	for ; len(s) >= 4; s = s[4:] {
		k, at := key(int(s[1])%63-1, int(s[2])%8-1), now
		switch {
		case s[3] < 160:
			now = min(between(now)+int(s[3])%4, 1<<40)
			at = now
		case s[3] < 200:
			now = min(between(now)+int(s[3])%20, 1<<40)
			at = now
		case s[3] < 215:
			at = now - int(s[3])%17
		case s[3] < 217:
			at = math.MinInt
		}
		if s[1] > 128 { // most steps are of few keys
			k = key(1+int(s[1])%3, int(s[2])%2*3)
		}
		l = append(l, step{"sdoatttttttttttt"[s[0]%16], k, at})
	}
	return l
}
