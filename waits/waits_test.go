package waits

import (
	"math"
	"math/rand"
	"slices"
	"testing"

	"consignor/api"
	"consignor/samples"
)

// P18.1: 2 to the tries - 1, at most 16; 0 of what is below 1.
func TestGap(t *testing.T) {
	for tries, want := range []int{0, 1, 2, 4, 8, 16, 16, 16, 16} {
		if n := Gap(tries); n != want {
			t.Errorf("Gap(%d): %d; want %d", tries, n, want)
		}
	}
	for tries := range 3000 {
		if n := Gap(tries); n != gapByWords(tries) {
			t.Errorf("Gap(%d): %d; want %d", tries, n, gapByWords(tries))
		}
		if n := Gap(-tries); n != 0 {
			t.Errorf("Gap(%d): %d; want 0", -tries, n)
		}
	}
	for _, tries := range []int{1 << 16, 1<<16 + 1, 1 << 31, 1 << 32, 1<<32 + 1, 1<<32 + 3, 1 << 62, math.MaxInt - 1, math.MaxInt} {
		if n := Gap(tries); n != 16 {
			t.Errorf("Gap(%d): %d; want 16", tries, n)
		}
		if n := Gap(-tries); n != 0 {
			t.Errorf("Gap(%d): %d; want 0", -tries, n)
		}
	}
	for _, tries := range []int{math.MinInt, math.MinInt + 1, math.MinInt + 2, math.MinInt + 64, -1<<32 + 3} {
		if n := Gap(tries); n != 0 {
			t.Errorf("Gap(%d): %d; want 0", tries, n)
		}
	}
}

// New: nothing waits, each time in another one.
func TestNew(t *testing.T) {
	w, other := New(), New()
	if w == nil || other == nil || w == other {
		t.Fatalf("New: %p, %p", w, other)
	}
	waitFor(t, w)
	for _, now := range ticks() {
		tells(t, w, now)
	}
	w.Start(key(1, 0), 0)
	waitFor(t, w, Wait{key(1, 0), 1, 1, false})
	waitFor(t, other)
	waitFor(t, New())
}

// Of waits that are none nothing is done; none, nil, false.
func TestNone(t *testing.T) {
	var none *Waits
	for _, w := range []*Waits{nil, {}, new(Waits), none.Copy(), new(Waits).Copy()} {
		for _, k := range append(keysThatAreNone(), key(1, 0), key(60, 5)) {
			for _, now := range ticks() {
				w.Start(k, now)
				is(t, "of none: Again", w.Again(k, now), false)
				tells(t, w, now)
				w.Due(k, now)
				is(t, "of none: Again", w.Again(k, now), false)
				tells(t, w, now)
				w.Stop(k)
			}
		}
		waitFor(t, w)
		if c := w.Copy(); c != nil {
			t.Errorf("of none: Copy: %v", c)
		}
	}
}

// P18.2: a deed that is started waits with 1 try, and is next one tick later.
func TestStart(t *testing.T) {
	for _, k := range keysThatMayBe() {
		for _, now := range ticks() {
			w := New()
			w.Start(k, now)
			waitFor(t, w, Wait{Key: k, Tries: 1, Next: between(now) + 1})
		}
	}
	w := New()
	w.Start(key(7, 3), 5)
	waitFor(t, w, Wait{key(7, 3), 1, 6, false})
	tells(t, w, 5)
	tells(t, w, 6, key(7, 3))
}

// P18.2: one that is due waits with 0 tries, and is next at once.
func TestDue(t *testing.T) {
	for _, k := range keysThatMayBe() {
		for _, now := range ticks() {
			w := New()
			w.Due(k, now)
			waitFor(t, w, Wait{Key: k, Tries: 0, Next: between(now)})
			if now > 0 {
				tells(t, w, min(now, 1<<40)-1)
			}
			tells(t, w, now, k)
			waitFor(t, w, Wait{Key: k, Tries: 1, Next: between(now) + 1})
		}
	}
}

// P18.2: a key that is none does not wait, whatever it is asked for; those that wait go on waiting.
func TestKeysThatAreNone(t *testing.T) {
	for _, others := range [][]api.Key{{}, {key(1, 0)}, {key(1, 5), key(60, 0), key(60, 5)}} {
		w, want := New(), []Wait{}
		for _, k := range others {
			w.Start(k, 3)
			want = append(want, Wait{k, 1, 4, false})
		}
		for _, k := range keysThatAreNone() {
			for _, now := range []int{0, 3, 1 << 40} {
				w.Start(k, now)
				waitFor(t, w, want...)
				is(t, "Again, none", w.Again(k, now), false)
				waitFor(t, w, want...)
				w.Due(k, now)
				waitFor(t, w, want...)
				w.Stop(k)
				is(t, "Again, none", w.Again(k, now), false)
				waitFor(t, w, want...)
			}
		}
		tells(t, w, 4, others...)
	}
}

// P18.2: Start and Due stand in the place of how the deed waited, so does Again; behind Stop it waits no more.
func TestInThePlace(t *testing.T) {
	k := key(12, 4)
	for told := range 7 {
		for _, at := range []int{0, 100} {
			for _, now := range []int{-1, 0, 1, 50, 131, 200, 1 << 40, math.MaxInt} {
				w := begun(k, at, told)
				w.Start(k, now)
				waitFor(t, w, Wait{k, 1, between(now) + 1, false})

				w = begun(k, at, told)
				w.Due(k, now)
				waitFor(t, w, Wait{k, 0, between(now), false})

				w = begun(k, at, told)
				is(t, "Again", w.Again(k, now), true)
				waitFor(t, w, Wait{k, 1, between(now) + 1, false})

				w = begun(k, at, told)
				w.Stop(k)
				waitFor(t, w)
				is(t, "Again, stopped", w.Again(k, now), false)
				waitFor(t, w)
				tells(t, w, 1<<40)
				w.Stop(k)
				waitFor(t, w)
				w.Start(k, now)
				waitFor(t, w, Wait{k, 1, between(now) + 1, false})
			}
		}
	}
	w := New()
	for range 3 {
		w.Due(k, 9)
		w.Due(k, 2)
		waitFor(t, w, Wait{k, 0, 2, false})
		is(t, "Again, due", w.Again(k, 4), true)
		waitFor(t, w, Wait{k, 1, 5, false})
	}
}

// P18.2: each deed waits by itself.
func TestEachByItself(t *testing.T) {
	for _, call := range "sdoa" {
		for _, k := range keysThatMayBe() {
			w := New()
			for i, other := range keysThatMayBe() {
				w.Start(other, i)
			}
			_, ok := do(w, step{byte(call), k, 5000})
			is(t, "Again", ok, call == 'a')
			want := []Wait{}
			for i, other := range keysThatMayBe() {
				x := Wait{other, 1, i + 1, false}
				if other == k {
					x = map[rune]Wait{'s': {k, 1, 5001, false}, 'd': {k, 0, 5000, false}, 'a': {k, 1, 5001, false}}[call]
				}
				if other != k || call != 'o' {
					want = append(want, x)
				}
			}
			waitFor(t, w, want...)
		}
	}
}

// P18.2: Again of a deed that does not wait: false, also where the order has others that do.
func TestAgainDoesNotBegin(t *testing.T) {
	w := New()
	for _, k := range keysThatMayBe() {
		is(t, "Again", w.Again(k, 3), false)
	}
	waitFor(t, w)
	w.Start(key(5, 1), 0)
	for _, k := range keysThatMayBe() {
		is(t, "Again", w.Again(k, 3), k == key(5, 1))
	}
	waitFor(t, w, Wait{key(5, 1), 1, 4, false})
}

// P18.3, P18.5: how a deed that was started at a tick goes on, when each tick comes: told 1, 3, 7 and 15 ticks later, and parked 31 ticks later.
func TestEachTick(t *testing.T) {
	k := key(60, 5)
	for _, from := range []int{0, 1, 77, 1<<40 - 40} {
		w, x := New(), Wait{k, 1, from + 1, false}
		w.Start(k, from)
		waitFor(t, w, x)
		for n := range 100 {
			want := []api.Key{}
			switch n {
			case 1, 3, 7, 15:
				want = append(want, k)
				x.Tries++
				x.Next = from + 2*n + 1
			case 31:
				x.Parked = true
			}
			tells(t, w, from+n, want...)
			waitFor(t, w, x)
		}
	}
}

// P18.3: one that was due goes on likewise, from the tick on at which it was told first.
func TestEachTickOfDue(t *testing.T) {
	k := key(1, 0)
	for _, late := range []int{0, 1, 5, 500} {
		w, x := New(), Wait{k, 0, 10, false}
		w.Due(k, 10)
		for now := range 10 {
			tells(t, w, now)
			waitFor(t, w, x)
		}
		first := 10 + late
		for n := range 100 {
			want := []api.Key{}
			switch n {
			case 0, 1, 3, 7, 15:
				want = append(want, k)
				x.Tries++
				x.Next = first + 2*n + 1
			case 31:
				x.Parked = true
			}
			tells(t, w, first+n, want...)
			waitFor(t, w, x)
		}
	}
}

// P18.3: the gap is counted from the tick that comes, however late that is; one tick has a deed told once.
func TestLateTicks(t *testing.T) {
	k := key(3, 2)
	for _, late := range []int{0, 1, 2, 100, 1 << 33} {
		w, now := New(), 0
		w.Start(k, 0)
		for tries, gap := range []int{1, 2, 4, 8} {
			tells(t, w, now+gap-1)
			now += gap + late
			tells(t, w, now, k)
			next := now + 2*gap
			waitFor(t, w, Wait{k, tries + 2, next, false})
			tells(t, w, now)
			tells(t, w, now)
			tells(t, w, now-1)
			tells(t, w, 0)
			waitFor(t, w, Wait{k, tries + 2, next, false})
		}
		tells(t, w, now+15)
		waitFor(t, w, Wait{k, 5, now + 16, false})
		tells(t, w, now+16+late)
		waitFor(t, w, Wait{k, 5, now + 16, true})
		for _, later := range ticks() {
			tells(t, w, later)
		}
		waitFor(t, w, Wait{k, 5, now + 16, true})
	}
}

// P18.3: one that is parked is told no more, until it begins anew, in whichever way.
func TestParked(t *testing.T) {
	k := key(8, 1)
	for _, call := range []byte("sda") {
		w := begun(k, 0, 5)
		waitFor(t, w, Wait{k, 5, 31, true})
		for _, now := range ticks() {
			tells(t, w, now)
		}
		waitFor(t, w, Wait{k, 5, 31, true})
		do(w, step{call, k, 40})
		if call == 'd' {
			tells(t, w, 40, k)
		}
		for n := 41; n < 100; n++ {
			want := []api.Key{}
			if n == 41 || n == 43 || n == 47 || n == 55 {
				want = append(want, k)
			}
			tells(t, w, n, want...)
		}
		waitFor(t, w, Wait{k, 5, 71, true})
	}
}

// P18.3: ticks below 0 are 0, ones above 2^40 are 2^40.
func TestTickEnds(t *testing.T) {
	k, last := key(2, 2), 1<<40
	for _, now := range ticks() {
		w := New()
		w.Due(k, 0)
		tells(t, w, now, k)
		waitFor(t, w, Wait{k, 1, between(now) + 1, false})

		w = New()
		w.Start(k, 0)
		if now < 1 {
			tells(t, w, now)
			waitFor(t, w, Wait{k, 1, 1, false})
		} else {
			tells(t, w, now, k)
			waitFor(t, w, Wait{k, 2, between(now) + 2, false})
		}

		// What is next behind the last tick is told no more.
		w = New()
		w.Start(k, last)
		tells(t, w, now)
		waitFor(t, w, Wait{k, 1, last + 1, false})

		w = New()
		w.Due(k, last)
		if now < last {
			tells(t, w, now)
			waitFor(t, w, Wait{k, 0, last, false})
		} else {
			tells(t, w, now, k)
			waitFor(t, w, Wait{k, 1, last + 1, false})
		}
	}
	w := begun(k, last-31, 4)
	waitFor(t, w, Wait{k, 5, last, false})
	tells(t, w, last-1)
	waitFor(t, w, Wait{k, 5, last, false})
	tells(t, w, math.MaxInt)
	waitFor(t, w, Wait{k, 5, last, true})
}

// P18.3, P18.4: all that are to be asked for are told, rising, however they came; of those that are parked, or next later, none.
func TestRising(t *testing.T) {
	r := rand.New(rand.NewSource(18))
	for range 200 {
		w, some := New(), keysThatMayBe()
		r.Shuffle(len(some), func(i, k int) { some[i], some[k] = some[k], some[i] })
		some = some[:r.Intn(len(some)+1)]
		how := map[api.Key]int{}
		for _, k := range some {
			how[k] = r.Intn(3)
		}
		for _, k := range some {
			if how[k] == 0 {
				w.Start(k, 0)
			}
		}
		for _, now := range []int{1, 3, 7, 15, 31} {
			w.Tick(now)
		}
		for _, k := range some {
			switch how[k] {
			case 1:
				w.Start(k, 39)
			case 2:
				w.Start(k, 40)
			}
		}
		told, all := []api.Key{}, []Wait{}
		for _, k := range keysThatMayBe() {
			if !slices.Contains(some, k) {
				continue
			}
			all = append(all, []Wait{{k, 5, 31, true}, {k, 1, 40, false}, {k, 1, 41, false}}[how[k]])
			if how[k] == 1 {
				told = append(told, k)
			}
		}
		waitFor(t, w, all...)
		tells(t, w, 40, told...)
	}
}

// P18.3: one that is parked by a tick stands beside such as are told by it.
func TestParkedBeside(t *testing.T) {
	w := begun(key(2, 0), 0, 4)
	w.Start(key(1, 5), 30)
	w.Start(key(2, 1), 30)
	tells(t, w, 31, key(1, 5), key(2, 1))
	waitFor(t, w, Wait{key(1, 5), 2, 33, false}, Wait{key(2, 0), 5, 31, true}, Wait{key(2, 1), 2, 33, false})
}

// changes are all ways in which waits change, of one key and of others.
func changes() (l []step) {
	for _, call := range []byte("sdoa") {
		l = append(l, step{call, key(2, 1), 20}, step{call, key(2, 4), 20}, step{call, key(9, 0), 20})
	}
	return append(l, step{'t', key(0, 0), 16}, step{'t', key(0, 0), 31}, step{'t', key(0, 0), 64})
}

// P18.4: a copy has the same, and goes on by itself, and so does what it is of.
func TestCopy(t *testing.T) {
	for told := range 6 {
		for _, one := range changes() {
			for _, other := range changes() {
				w := begun(key(2, 1), 0, told)
				w.Due(key(2, 4), 16)
				ahead := w.List()
				c := w.Copy()
				if c == nil || c == w {
					t.Fatalf("Copy: %p; of %p", c, w)
				}
				waitFor(t, c, ahead...)
				d := c.Copy()
				do(w, one)
				waitFor(t, c, ahead...)
				behind := w.List()
				do(c, other)
				waitFor(t, w, behind...)
				// It goes on just as what it is of would.
				x := begun(key(2, 1), 0, told)
				x.Due(key(2, 4), 16)
				do(x, other)
				waitFor(t, c, x.List()...)
				waitFor(t, d, ahead...)
			}
		}
	}
	c := New().Copy()
	waitFor(t, c)
	c.Start(key(1, 1), 0)
	waitFor(t, c, Wait{key(1, 1), 1, 1, false})
	tells(t, c.Copy(), 1, key(1, 1))
	tells(t, c, 1, key(1, 1))
}

// P18.2 to P18.5, by the chapter's words: all short lists of some steps, of a key in each way in which it waits.
func TestAllShort(t *testing.T) {
	a, b := key(1, 3), key(1, 4)
	some := []step{
		{'s', a, 15}, {'s', a, 16}, {'s', b, 16}, {'d', a, 16}, {'d', b, 31}, {'o', a, 0}, {'a', a, 15}, {'a', b, 16}, {'s', key(61, 0), 15},
		{'t', a, 15}, {'t', a, 16}, {'t', a, 17}, {'t', a, 31}, {'t', a, -1},
	}
	aheads := [][]step{{}}
	for _, now := range []int{0, 1, 3, 7, 15, 31} {
		call := byte('t')
		if now == 0 {
			call = 's'
		}
		aheads = append(aheads, append(slices.Clone(aheads[len(aheads)-1]), step{call, a, now}))
	}
	for _, s := range samples.Texts("\x00\x01\x02\x03\x04\x05\x06\x07\x08\x09\x0A\x0B\x0C\x0D", 3) {
		for _, ahead := range aheads {
			l := slices.Clone(ahead)
			for _, i := range []byte(s) {
				l = append(l, some[i])
			}
			agree(t, l)
		}
	}
}

// P18.2 to P18.5, by the chapter's words: long lists.
func TestLong(t *testing.T) {
	r := rand.New(rand.NewSource(181))
	for _, now := range []int{0, 1000, 1<<40 - 500, 1 << 40} {
		for range 40 {
			b := make([]byte, 4*300)
			r.Read(b)
			agree(t, stepsOf(string(b), now))
		}
	}
}

// P18.5: whenever ticks come, and whatever is done with others, a deed is asked for 5 times at most, the first and the last of these 15 ticks or more apart, and when each tick comes, the next is within 16.
func TestAskedFor(t *testing.T) {
	r := rand.New(rand.NewSource(182))
	for round := range 300 {
		k, w, now := key(1+r.Intn(60), r.Intn(6)), New(), r.Intn(100)
		w.Start(k, now)
		asked, quiet := []int{now}, 0
		for range 200 {
			by := 1
			if round%2 == 0 {
				by = r.Intn(5)
			}
			now += by
			if told := w.Tick(now); slices.Contains(told, k) {
				asked, quiet = append(asked, now), 0
			} else if quiet += by; !w.List()[0].Parked && by == 1 && round%2 == 1 && quiet >= 16 {
				t.Fatalf("not told, nor parked, since %d ticks, at %d: %v", quiet, now, w.List())
			}
		}
		if len(asked) != 5 || asked[4]-asked[0] < 15 || !w.List()[0].Parked {
			t.Fatalf("asked for at %v; %v", asked, w.List())
		}
	}
}

// P18.2 to P18.5, of any steps: four bytes each, and then one of any numbers.
func FuzzAny(f *testing.F) {
	f.Add("\x00\x81\x00\x00\x04\x00\x00\x01\x04\x00\x00\x02", 0, byte('s'), 1, 0, 0)
	f.Add("\x01\x81\x00\x00\x04\x00\x00\x00\x04\x00\x00\x03\x02\x81\x00\x00", 1<<40-5, byte('a'), 61, -1, math.MaxInt)
	f.Add("\x03\x81\x01\xD0\x00\x05\x05\xD8", math.MinInt, byte('d'), math.MinInt, math.MaxInt, math.MinInt)
	f.Fuzz(func(t *testing.T, s string, from int, call byte, order, deed, now int) {
		if n := Gap(now); n != gapByWords(now) {
			t.Errorf("Gap(%d): %d", now, n)
		}
		l := stepsOf(s[:min(len(s), 600)], from)
		w := agree(t, l)
		ahead, c := w.List(), w.Copy()
		agree(t, append(l, step{call, key(order, deed), now}, step{'t', key(0, 0), now}, step{'t', key(0, 0), from}))
		w.Due(key(order, deed), now)
		w.Tick(now)
		waitFor(t, c, ahead...)
	})
}

// The chapter's examples.
func TestExamples(t *testing.T) {
	w, k := New(), key(4, 2)
	w.Start(k, 0)
	tells(t, w, 0)
	for _, now := range []int{1, 3, 7, 15} {
		tells(t, w, now, k)
	}
	waitFor(t, w, Wait{k, 5, 31, false})
	tells(t, w, 31)
	waitFor(t, w, Wait{k, 5, 31, true})
	is(t, "Again", w.Again(k, 40), true)
	tells(t, w, 40)
	tells(t, w, 41, k)
}

// R4: lists that are told are the caller's own.
func TestListsAreTheirOwn(t *testing.T) {
	a, b := key(1, 0), key(3, 3)
	for _, s := range changes() {
		w := New()
		w.Due(a, 0)
		w.Due(b, 0)
		want := []Wait{{a, 0, 0, false}, {b, 0, 0, false}}
		list, again := w.List(), w.List()
		list[0] = Wait{key(9, 9), 9, 9, true}
		_ = append(list[:1], Wait{})
		slices.Reverse(list)
		waitFor(t, w, want...)
		told := w.Tick(0)
		if !slices.Equal(told, []api.Key{a, b}) || !slices.Equal(again, want) {
			t.Fatalf("Tick: %v; List ahead of it: %v", told, again)
		}
		kept := slices.Clone(told)
		w.Due(a, 1)
		do(w, s)
		w.Tick(64)
		if !slices.Equal(told, kept) || !slices.Equal(again, want) {
			t.Errorf("%v: what was told: %v, %v", s, told, again)
		}
		now := w.List()
		clear(told)
		waitFor(t, w, now...)
	}
}

// R2: waits know nothing of each other, nor of ticks that came ahead.
func TestSameAgain(t *testing.T) {
	r := rand.New(rand.NewSource(183))
	a, b, other := New(), New(), New()
	for range 2000 {
		s := make([]byte, 8)
		r.Read(s)
		l := stepsOf(string(s), r.Intn(300))
		told, ok := do(a, l[0])
		do(other, l[1])
		b.Copy().Tick(math.MaxInt)
		if again, ok2 := do(b, l[0]); !slices.Equal(told, again) || ok != ok2 || !slices.Equal(a.List(), b.List()) {
			t.Fatalf("%v: %v, %v, %v; again %v, %v, %v", l[0], told, ok, a.List(), again, ok2, b.List())
		}
	}
}
