package net

import (
	"fmt"
	"math"
	"slices"
	"strconv"
	"testing"

	"consignor/api"
)

// calls are what a net is asked; the tests hold a Net against byWords by them.
type calls interface {
	Send(m api.Msg) bool
	Mail() []api.Msg
	Deliver(i int) (api.Msg, bool)
	Drop(i int) bool
	Double(i int) bool
	Turn(i, k int) bool
}

// byWords is a net by the chapter's words: a list that is laid anew, message by message, for each thing that is done.
type byWords struct{ list []api.Msg }

// find is the message of a place, gone to one by one.
func (w *byWords) find(i int) (m api.Msg, there bool) {
	for at, x := range w.list {
		if at == i {
			return x, true
		}
	}
	return api.Msg{}, false
}

func (w *byWords) Send(m api.Msg) bool {
	l := []api.Msg{}
	for _, x := range w.list {
		l = append(l, x)
	}
	if len(l) == 1000 {
		return false
	}
	w.list = append(l, m)
	return true
}

func (w *byWords) Mail() []api.Msg { return w.list }

func (w *byWords) Deliver(i int) (api.Msg, bool) {
	m, there := w.find(i)
	l := []api.Msg{}
	for at, x := range w.list {
		if at != i {
			l = append(l, x)
		}
	}
	w.list = l
	return m, there
}

func (w *byWords) Drop(i int) bool {
	_, there := w.Deliver(i)
	return there
}

func (w *byWords) Double(i int) bool {
	m, there := w.find(i)
	return there && w.Send(m)
}

func (w *byWords) Turn(i, k int) bool {
	one, there := w.find(i)
	other, there2 := w.find(k)
	if !there || !there2 {
		return false
	}
	l := []api.Msg{}
	for at, x := range w.list {
		switch at {
		case i:
			l = append(l, other)
		case k:
			l = append(l, one)
		default:
			l = append(l, x)
		}
	}
	w.list = l
	return true
}

// message is one that no other number has.
func message(n int) api.Msg {
	return api.Msg{To: n % 5, Key: api.Key{Order: n, Deed: n % 7}, Sku: "s" + strconv.Itoa(n), Qty: -n, Amount: int64(n) << 33, Code: n % 3}
}

// upTo are the messages from 0 on, so many.
func upTo(many int) []api.Msg {
	l := []api.Msg{}
	for n := range many {
		l = append(l, message(n))
	}
	return l
}

// carrying is a net with messages, each of which is to be taken.
func carrying(t testing.TB, l ...api.Msg) *Net {
	t.Helper()
	n := New()
	for _, m := range l {
		is(t, "Send", n.Send(m), true)
	}
	carries(t, n, l...)
	return n
}

// is holds what a call tells.
func is(t testing.TB, call string, told, want bool) {
	t.Helper()
	if told != want {
		t.Fatalf("%s: %v; want %v", call, told, want)
	}
}

// carries holds all that is on its way.
func carries(t testing.TB, n *Net, want ...api.Msg) {
	t.Helper()
	for range 2 {
		if l := n.Mail(); !slices.Equal(l, want) {
			at := parts(l, want)
			t.Fatalf("Mail: %d, at %d: %.100v; want %d, %.100v", len(l), at, l[at:min(at+3, len(l))], len(want), want[at:min(at+3, len(want))])
		}
	}
}

// parts is the first place at which two lists are not the same.
func parts(l, other []api.Msg) int {
	at := 0
	for at < len(l) && at < len(other) && l[at] == other[at] {
		at++
	}
	return at
}

// delivers takes one out, and holds it whole.
func delivers(t testing.TB, n *Net, i int, want api.Msg) {
	t.Helper()
	if m, ok := n.Deliver(i); m != want || !ok {
		t.Fatalf("Deliver(%d): %.100v, %v; want %.100v", i, m, ok, want)
	}
}

// deliversNone holds that there is none at a place.
func deliversNone(t testing.TB, n *Net, i int) {
	t.Helper()
	if m, ok := n.Deliver(i); m != (api.Msg{}) || ok {
		t.Fatalf("Deliver(%d): %.100v, %v; want none", i, m, ok)
	}
}

// noPlaces are places at which a net of so many has none.
func noPlaces(many int) []int {
	l := []int{
		-1, -2, -many, -many - 1, many, many + 1, 2*many + 1, -1 << 32, math.MinInt, math.MinInt + 1, math.MaxInt, math.MaxInt - 1,
		1 << 8, 1 << 16, 1 << 32, 1<<32 + many/2, math.MinInt + many/2, 1000, 1001,
	}
	return slices.DeleteFunc(l, func(i int) bool { return i >= 0 && i < many })
}

// step is a thing that is done with a net: s sends, d delivers, o drops, b doubles, t turns.
type step struct {
	call byte
	i, k int
}

func (s step) String() string { return fmt.Sprintf("%c %d %d", s.call, s.i, s.k) }

// do does a step, and is what was told; what is sent is m.
func do(n calls, s step, m api.Msg) (told api.Msg, ok bool) {
	switch s.call {
	case 's':
		return told, n.Send(m)
	case 'd':
		return n.Deliver(s.i)
	case 'o':
		return told, n.Drop(s.i)
	case 'b':
		return told, n.Double(s.i)
	}
	return told, n.Turn(s.i, s.k)
}

// agree does a list of steps with a net of so many, and with one by the chapter's words, and holds one against the other, and against what follows, behind each.
func agree(t testing.TB, many int, l []step) *Net {
	t.Helper()
	n, w, owed := carrying(t, upTo(many)...), &byWords{upTo(many)}, map[api.Msg]int{}
	for _, m := range w.list {
		owed[m]++
	}
	for at, s := range l {
		m, ahead := message(many+at), n.Mail()
		told, ok := do(n, s, m)
		if want, may := do(w, s, m); told != want || ok != may {
			t.Fatalf("%d, %v: %v, %v; want %v, %v", many, l[:at+1], told, ok, want, may)
		}
		if !slices.Equal(n.Mail(), w.list) {
			t.Fatalf("%d, %v: %v; want %v", many, l[:at+1], n.Mail(), w.list)
		}
		owes(owed, s, m, ahead, ok)
		if !ok && !slices.Equal(n.Mail(), ahead) {
			t.Fatalf("%d, %v: false, and %v; want %v, as ahead", many, l[:at+1], n.Mail(), ahead)
		}
	}
	for _, m := range n.Mail() {
		owed[m]--
	}
	for m, count := range owed {
		if count != 0 {
			t.Fatalf("%d, %v: %v is on its way %d times too few", many, l, m, count)
		}
	}
	return n
}

// owes counts how often each message is still to be delivered, behind a step.
func owes(owed map[api.Msg]int, s step, m api.Msg, ahead []api.Msg, ok bool) {
	switch {
	case !ok:
	case s.call == 's':
		owed[m]++
	case s.call == 'b':
		owed[ahead[s.i]]++
	case s.call == 'd', s.call == 'o':
		owed[ahead[s.i]]--
	}
}

// stepsOf are those of a text, three bytes each, at places of a net of about so many, and round about.
func stepsOf(s string, many int) (l []step) {
	place := func(b byte) int { return int(b)*7%(many+6) - 2 }
	for ; len(s) >= 3; s = s[3:] {
		l = append(l, step{"sssddobbtt"[s[0]%10], place(s[1]), place(s[2])})
	}
	return l
}
