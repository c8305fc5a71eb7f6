package saga

import (
	"math"
	"math/rand"
	"slices"
	"testing"

	"consignor/api"
)

// The numbers that the chapter gives what a saga, or a deed of it, is.
func TestNumbers(t *testing.T) {
	if l := []int{Going, Back, Done, Failed, Cancelled}; !slices.Equal(l, []int{0, 1, 2, 3, 4}) {
		t.Errorf("how a saga is: %v", l)
	}
	if l := []int{None, Asked, DoneIt, Refused, Left}; !slices.Equal(l, []int{0, 1, 2, 3, 4}) {
		t.Errorf("how a deed is: %v", l)
	}
}

// P19.1: DeReserve is Asked, all others None, it is not cancelled, and the order is the one handed in, whatever that is.
func TestBegin(t *testing.T) {
	for _, o := range append(ordersThatMayBe(), ordersThatMayNot()...) {
		s := Begin(o)
		if want := (Saga{Order: o, Deeds: [6]int{1, 0, 0, 0, 0, 0}}); s != want {
			t.Errorf("Begin(%.200v): %s, %.200v", o, text(s), s.Order)
		}
		isWaits(t, s, api.DeReserve)
	}
}

// P19.1 to P19.6: each saga that may be, written out, with what is told of it, of orders at both ends.
func TestWays(t *testing.T) {
	for _, o := range ordersThatMayBe() {
		for _, w := range ways() {
			s := withOrder(w.text, o)
			if n := State(s); n != w.state {
				t.Errorf("State(%s): %d; want %d", w.text, n, w.state)
			}
			isWaits(t, s, w.waits)
			want := int64(0)
			if w.net {
				want = o.Amount
			}
			if n := Net(s); n != want {
				t.Errorf("Net(%s): %d; want %d", w.text, n, want)
			}
			isValid(t, s, true)
			isReply(t, s, w.waits, api.CoDone, w.done)
			isReply(t, s, w.waits, api.CoRefused, w.refused)
			for deed := range 6 {
				isReply(t, s, deed, api.CoNone, "")
				if deed != w.waits {
					isReply(t, s, deed, api.CoDone, "")
					isReply(t, s, deed, api.CoRefused, "")
				}
			}
			isStop(t, s, w.stop)
		}
	}
}

// isReply holds what a reply leads to; to nothing: the zero saga and false.
func isReply(t *testing.T, s Saga, deed, code int, want string) {
	t.Helper()
	next, ok := Reply(s, deed, code)
	switch {
	case want == "" && (ok || next != Saga{}):
		t.Errorf("Reply(%s, %d, %d): %s, %v, %v; want zero, false", text(s), deed, code, text(next), next.Order, ok)
	case want != "" && (!ok || next != withOrder(want, s.Order)):
		t.Errorf("Reply(%s, %d, %d): %s, %v, %v; want %s", text(s), deed, code, text(next), next.Order, ok, want)
	}
}

// isStop holds what Stop leads to; to nothing: ErrState and the zero saga.
func isStop(t *testing.T, s Saga, want string) {
	t.Helper()
	next, e := Stop(s)
	switch {
	case want == "" && (e != api.ErrState || next != Saga{}):
		t.Errorf("Stop(%s): %s, %v, %d; want zero, 92", text(s), text(next), next.Order, e)
	case want != "" && (e != api.OK || next != withOrder(want, s.Order)):
		t.Errorf("Stop(%s): %s, %v, %d; want %s", text(s), text(next), next.Order, e, want)
	}
}

// The chapter's examples.
func TestExamples(t *testing.T) {
	s, ok := Reply(Begin(sample), api.DeReserve, api.CoDone)
	if deed, waits := Waits(s); !ok || deed != api.DeCharge || !waits {
		t.Errorf("reserved: %s", text(s))
	}
	s, ok = Reply(s, api.DeCharge, api.CoRefused)
	if deed, waits := Waits(s); !ok || State(s) != Back || deed != api.DeRelease || !waits {
		t.Errorf("refused: %s", text(s))
	}
	s, ok = Reply(s, api.DeRelease, api.CoDone)
	if !ok || State(s) != Failed {
		t.Errorf("released: %s", text(s))
	}
	s, e := Stop(Begin(sample))
	if deed, waits := Waits(s); e != api.OK || s.Deeds[api.DeReserve] != Left || deed != api.DeRelease || !waits {
		t.Errorf("stopped: %s, %d", text(s), e)
	}
}

// all goes through all sagas of the sample, whose deeds are of some numbers.
func all(numbers []int, do func(s Saga)) {
	places := [6]int{}
	for {
		s := Saga{Order: sample}
		for deed, place := range places {
			s.Deeds[deed] = numbers[place]
		}
		do(s)
		s.Cancel = true
		do(s)
		at := 0
		for at < 6 && places[at] == len(numbers)-1 {
			places[at] = 0
			at++
		}
		if at == 6 {
			return
		}
		places[at]++
	}
}

// P19.1 to P19.5, by the chapter's words: all sagas, also such as may not be, with each deed and code.
func TestAll(t *testing.T) {
	many := 0
	all([]int{0, 1, 2, 3, 4}, func(s Saga) {
		agree(t, s)
		many++
	})
	if many != 2*5*5*5*5*5*5 {
		t.Errorf("%d sagas", many)
	}
}

// P19.1 to P19.5: a deed that is in none of the ways is as none of them, whatever its number.
func TestOddDeeds(t *testing.T) {
	for _, odd := range []int{math.MinInt, -1, 5, 256 + 1, 1 << 32, 1<<32 + 1, 1<<32 + 2, math.MaxInt} {
		all([]int{0, 1, 2, odd}, func(s Saga) { agree(t, s) })
	}
	all([]int{-1, 3, 4, 5}, func(s Saga) { agree(t, s) })
}

// P19.2: nothing but the deeds and Cancel is looked at, and of the deeds that undo just whether one waits.
func TestState(t *testing.T) {
	for _, x := range []struct {
		text string
		want int
	}{
		{"------", Done}, {"------!", Cancelled}, {"ddd---!", Cancelled}, {"dd----", Done}, {"d-d---", Done},
		{"---r--", Done}, {"----r-", Done}, {"-----r", Done}, {"dddrrr", Done}, {"---rrr!", Cancelled},
		{"r-----!", Cancelled}, {"-r----", Failed}, {"--r---", Failed}, {"-----a", Going}, {"r----a", Back}, {"-----a!", Back},
		{"lll---", Done}, {"l-----", Done}, {"a----r", Going}, {"ar----", Back}, {"a-r---!", Back},
	} {
		if n := State(of(x.text)); n != x.want {
			t.Errorf("State(%s): %d; want %d", x.text, n, x.want)
		}
	}
}

// P19.1, P19.3: where several are Asked, the first one is waited for, and it goes on all the same.
func TestSeveralAsked(t *testing.T) {
	for deed := range 6 {
		s := of("aaaaaa")
		for i := range deed {
			s.Deeds[i] = DoneIt
		}
		isWaits(t, s, deed)
		for other := range 6 {
			if _, ok := Reply(s, other, api.CoDone); ok != (other == deed) {
				t.Errorf("Reply(%s, %d): %v", text(s), other, ok)
			}
		}
	}
	isReply(t, of("aa----"), api.DeReserve, api.CoDone, "daa---")
	isReply(t, of("aa----"), api.DeReserve, api.CoRefused, "ra----")
	isReply(t, of("ad----"), api.DeReserve, api.CoRefused, "rd--a-")
	isStop(t, of("aa-a--"), "la-a--!")
	isStop(t, of("aad---"), "lad--a!")
	isStop(t, of("dad--d"), "dld-ad!")
}

// P19.3: a reply to what undoes is Done, and never Refused.
func TestUndoingIsNotRefused(t *testing.T) {
	for _, s := range []Saga{of("l--a--!"), of("dl--a-!"), of("ddl--a!"), of("ddr-a-"), of("---a--"), of("----a-"), of("-----a")} {
		deed, _ := Waits(s)
		for _, code := range codes() {
			if next, ok := Reply(s, deed, code); ok != (code == api.CoDone) || !ok && next != (Saga{}) {
				t.Errorf("Reply(%s, %d, %d): %s, %v", text(s), deed, code, text(next), ok)
			}
		}
	}
}

// P19.4: what was told once that it is cancelled, goes back, or is at its end, is not cancelled again.
func TestStopTwice(t *testing.T) {
	for _, w := range ways() {
		next, e := Stop(of(w.text))
		if (e == api.OK) != (w.state == Going) {
			t.Errorf("Stop(%s): %d", w.text, e)
		}
		if e == api.OK {
			isStop(t, next, "")
		}
	}
}

// P19.5: the order's Amount, whatever that is, whether the order may be or not.
func TestNet(t *testing.T) {
	for _, amount := range []int64{math.MinInt64, -1, 0, 1, 300, 1 << 40, 1<<40 + 1, math.MaxInt64} {
		for _, x := range []struct {
			text string
			net  bool
		}{
			{"dda---", true}, {"-d----", true}, {"-d--a-", true}, {"-d--r-", true}, {"-d--l-", true}, {"ddd--d", true}, {"ddl-ad!", true}, {"-d----!", true},
			{"-d--d-", false}, {"da----", false}, {"dl----!", false}, {"dr----", false}, {"d-d---", false}, {"-l--d-", false}, {"a-----", false},
		} {
			s := withOrder(x.text, api.Order{Amount: amount})
			want := int64(0)
			if x.net {
				want = amount
			}
			if n := Net(s); n != want {
				t.Errorf("Net(%s) of %d: %d; want %d", x.text, amount, n, want)
			}
		}
	}
}

// P19.6: of all sagas just those that are written out may be.
func TestValid(t *testing.T) {
	many := 0
	all([]int{0, 1, 2, 3, 4}, func(s Saga) {
		_, want := wayOf(text(s))
		isValid(t, s, want)
		if want {
			many++
		}
	})
	if many != 19 || len(ways()) != 19 {
		t.Errorf("%d sagas that may be; want 19", many)
	}
}

// P19.6: one with a deed that is in none of the ways, or with Cancel turned over, may not be.
func TestNotValid(t *testing.T) {
	for _, w := range ways() {
		for deed := range 6 {
			for _, odd := range []int{math.MinInt, -1, 5, 6, 1 << 32, 1<<32 + 1, 1<<32 + 2, math.MaxInt} {
				s := of(w.text)
				s.Deeds[deed] = odd
				isValid(t, s, false)
			}
		}
		s := of(w.text)
		s.Cancel = !s.Cancel
		isValid(t, s, false)
	}
	isValid(t, Saga{}, false)
	isValid(t, Saga{Order: sample}, false)
}

// P19.6: no saga may be of an order that may not be, and each of any that may be.
func TestValidByOrder(t *testing.T) {
	for _, w := range ways() {
		for _, o := range ordersThatMayBe() {
			isValid(t, withOrder(w.text, o), true)
		}
		for _, o := range ordersThatMayNot() {
			isValid(t, withOrder(w.text, o), false)
		}
	}
}

// P19.6: just what replies and Stop lead to, step by step, in whichever order, may be.
func TestLed(t *testing.T) {
	met := map[string]int{}
	var lead func(s Saga)
	lead = func(s Saga) {
		isValid(t, s, true)
		met[text(s)]++
		for deed := range 6 {
			for _, code := range codes() {
				if next, ok := Reply(s, deed, code); ok {
					lead(next)
				}
			}
		}
		if next, e := Stop(s); e == api.OK {
			lead(next)
		}
	}
	lead(Begin(sample))
	for _, w := range ways() {
		if met[w.text] == 0 {
			t.Errorf("%s was not met", w.text)
		}
	}
	if len(met) != len(ways()) {
		t.Errorf("%d were met; want %d", len(met), len(ways()))
	}
}

// P19.3, P19.4: the order is the one that was handed in, whatever it is.
func TestOrderStays(t *testing.T) {
	for _, o := range append(ordersThatMayBe(), ordersThatMayNot()...) {
		for _, w := range ways() {
			isReply(t, withOrder(w.text, o), w.waits, api.CoDone, w.done)
			isReply(t, withOrder(w.text, o), w.waits, api.CoRefused, w.refused)
			isStop(t, withOrder(w.text, o), w.stop)
		}
	}
}

// P19.7: each saga, answered in each way, and cancelled at each place, comes to its end behind six replies at most, and there it is as it is to be.
func TestEnds(t *testing.T) {
	ends := map[int]int{}
	var lead func(s Saga, replies int, undone []int)
	lead = func(s Saga, replies int, undone []int) {
		if replies > 6 {
			t.Fatalf("%s: behind %d replies", text(s), replies)
		}
		deed, waits := Waits(s)
		if !waits {
			ends[State(s)]++
			isEnd(t, s, undone)
			return
		}
		for _, code := range []int{api.CoDone, api.CoRefused} {
			next, ok := Reply(s, deed, code)
			if !ok {
				if code == api.CoDone || deed < 3 {
					t.Errorf("Reply(%s, %d, %d): false", text(s), deed, code)
				}
				continue
			}
			if deed < 3 {
				lead(next, replies+1, undone)
			} else {
				lead(next, replies+1, append(slices.Clone(undone), deed))
			}
		}
		if next, e := Stop(s); e == api.OK {
			lead(next, replies, undone)
		}
	}
	lead(Begin(sample), 0, nil)
	if ends[Going] != 0 || ends[Back] != 0 || ends[Done] != 1 || ends[Failed] != 3 || ends[Cancelled] != 3 {
		t.Errorf("ends by their states: %v", ends)
	}
}

// isEnd holds a saga at its end, and which deeds that undo were answered, in their order, against what follows.
func isEnd(t *testing.T, s Saga, undone []int) {
	t.Helper()
	want := []int{}
	for deed := 2; deed >= 0; deed-- {
		if how := s.Deeds[deed]; State(s) != Done && (how == DoneIt || how == Left) {
			want = append(want, deed+3)
		}
	}
	if !slices.Equal(undone, want) {
		t.Errorf("%s: undone by %v; want %v", text(s), undone, want)
	}
	for deed := 3; deed < 6; deed++ {
		how := None
		if slices.Contains(want, deed) {
			how = DoneIt
		}
		if s.Deeds[deed] != how {
			t.Errorf("%s: the deed %d is %d; want %d", text(s), deed, s.Deeds[deed], how)
		}
	}
	if State(s) != Done && Net(s) != 0 {
		t.Errorf("Net(%s): %d; want 0", text(s), Net(s))
	}
	if State(s) == Done && text(s) != "ddd---" {
		t.Errorf("Done: %s", text(s))
	}
}

// P19.7: any answers, also such as come doubled, late, or are none, and Stops between them: behind six that are taken each saga is at its end, and stays there.
func TestAnyAnswers(t *testing.T) {
	r := rand.New(rand.NewSource(19))
	for range 20000 {
		s, taken := Begin(sample), 0
		for range r.Intn(60) {
			was := s
			if r.Intn(12) == 0 {
				if next, e := Stop(s); e == api.OK {
					s = next
				}
			} else if next, ok := Reply(s, r.Intn(8)-1, r.Intn(4)); ok {
				s, taken = next, taken+1
			}
			if _, waits := Waits(was); !waits && s != was {
				t.Fatalf("%s, at its end, is %s", text(was), text(s))
			}
		}
		isValid(t, s, true)
		for range 6 - taken {
			if deed, waits := Waits(s); waits {
				s, _ = Reply(s, deed, api.CoDone)
			}
		}
		if n := State(s); n == Going || n == Back || taken > 6 {
			t.Fatalf("%s: behind six replies, of which %d were of any kind", text(s), taken)
		}
	}
}

// P19.1 to P19.6, by the chapter's words: any deeds, of any orders.
func FuzzSaga(f *testing.F) {
	for _, w := range ways() {
		f.Add(w.text, uint8(0), 3, "R-1", "nut", 4, int64(300), 0)
	}
	f.Add("aaaaaa!", uint8(3), -1, "", "é", 0, int64(-1), 7)
	f.Fuzz(func(t *testing.T, how string, place uint8, id int, ref, sku string, qty int, amount int64, odd int) {
		o := api.Order{Id: id, Ref: ref, Sku: sku, Qty: qty, Amount: amount}
		s := Saga{Order: o, Cancel: len(how) > 6}
		for i := range min(len(how), 6) {
			s.Deeds[i] = slices.Index([]byte(letters), how[i])
		}
		agree(t, s)
		_, may := wayOf(text(s))
		s.Order = sample
		isValid(t, s, may)
		s.Deeds[place%6] = odd
		agree(t, s)
		_, may = wayOf(text(s))
		isValid(t, s, may)
		if b := Begin(o); b != (Saga{Order: o, Deeds: [6]int{1}}) {
			t.Errorf("Begin: %s, %v", text(b), b.Order)
		}
	})
}
