package samples

import (
	"slices"
	"testing"

	"consignor/api"
	"consignor/csv"
	"consignor/money"
	"consignor/orders"
)

// All texts are there, each once: tests that go through them leave none out.
func TestTexts(t *testing.T) {
	for _, x := range []struct {
		letters string
		most    int
		want    []string
	}{
		{"ab", 0, []string{""}}, {"ab", -1, []string{""}}, {"", 3, []string{""}},
		{"a", 3, []string{"", "a", "aa", "aaa"}},
		{"\x00\xFF", 2, []string{"", "\x00", "\xFF", "\x00\x00", "\x00\xFF", "\xFF\x00", "\xFF\xFF"}},
	} {
		if l := Texts(x.letters, x.most); !slices.Equal(l, x.want) {
			t.Errorf("Texts(%q, %d): %q; want %q", x.letters, x.most, l, x.want)
		}
	}
}

// Just the bits of the pattern are turned over, the lowest byte at the place; turned over twice, the text is as it was.
func TestTurned(t *testing.T) {
	for _, x := range []struct {
		s     string
		place int
		bits  uint32
		want  string
	}{
		{"\x00\x00\x00\x00", 0, 0x80000001, "\x01\x00\x00\x80"}, {"abcdef", 1, 0x01020304, "af`fdf"}, {"abcdef", 2, 0, "abcdef"},
		{"\xFF\x0F", 1, 0xF0, "\xFF\xFF"}, {"\xFF", 0, 1, "\xFE"},
	} {
		if s := Turned(x.s, x.place, x.bits); s != x.want {
			t.Errorf("Turned(%x, %d, %x): %x; want %x", x.s, x.place, x.bits, s, x.want)
		}
		if s := Turned(x.want, x.place, x.bits); s != x.s {
			t.Errorf("Turned(%x, %d, %x): %x; want %x", x.want, x.place, x.bits, s, x.s)
		}
	}
}

// Each single bit, each two, and all in a row from each to each are there, none turns nothing over, and they are the same again.
func TestPatterns(t *testing.T) {
	l := Patterns()
	if slices.Contains(l, 0) || !slices.Equal(l, Patterns()) || len(l) < 1000 {
		t.Errorf("%d patterns", len(l))
	}
	for i := range 32 {
		for j := i; j < 32; j++ {
			row := uint32(0)
			for k := i; k <= j; k++ {
				row |= 1 << k
			}
			if !slices.Contains(l, 1<<i|1<<j) || !slices.Contains(l, row) {
				t.Errorf("bits %d and %d: both, or the row, are not there", i, j)
			}
		}
	}
}

// Each choice is there, once, in the order of the lists; of no list there is one of nothing, of an empty one none.
func TestChoices(t *testing.T) {
	for _, x := range []struct {
		choices Choices
		want    []string
	}{
		{nil, []string{""}}, {Choices{{"a", "b"}}, []string{"a", "b"}}, {Choices{{"a"}, nil, {"b"}}, nil},
		{Choices{{"a", ""}, {"1", "2"}, {"\n", "x"}}, []string{"a1\n", "a1x", "a2\n", "a2x", "1\n", "1x", "2\n", "2x"}},
	} {
		var l []string
		x.choices.Each(func(text string) { l = append(l, text) })
		if !slices.Equal(l, x.want) {
			t.Errorf("Each of %q: %q; want %q", x.choices, l, x.want)
		}
	}
}

// Just the fields that are chosen are in quotes, and the rows are the same.
func TestQuoted(t *testing.T) {
	table := [][]string{{"a", "b"}, {""}, {"a", "", "c"}}
	for _, x := range []struct{ chosen, want string }{
		{"", "a,b\n\na,,c\n"}, {"a", "\"a\",b\n\n\"a\",,c\n"}, {"bc", "a,\"b\"\n\na,,\"c\"\n"},
	} {
		text := Quoted(table, func(field string) bool { return field != "" && slices.Contains([]byte(x.chosen), field[0]) })
		if rows, r := csv.Parse(text); text != x.want || r.Code != 0 || !slices.EqualFunc(rows, table, slices.Equal) {
			t.Errorf("Quoted, where %q are: %q; want %q", x.chosen, text, x.want)
		}
	}
	all := Quoted([][]string{{"a,\"", ""}, {"\n"}}, func(string) bool { return true })
	if want := "\"a,\"\"\",\"\"\n\"\n\"\n"; all != want {
		t.Errorf("Quoted, where all are: %q; want %q", all, want)
	}
}

// None of them is a number, no two are the same, and the one that is nothing is there.
func TestNotNumbers(t *testing.T) {
	l := NotNumbers()
	for i, s := range l {
		if n, ok := money.Get(s); ok || slices.Contains(l[:i], s) {
			t.Errorf("%q: %d, %v, or it is there twice", s, n, ok)
		}
	}
	if !slices.Contains(l, "") || len(l) < 40 {
		t.Errorf("%d that are no numbers", len(l))
	}
}

// Some of them are names of what is ordered, and of its goods, some are neither, and none is there twice.
func TestNames(t *testing.T) {
	l, many := Names(), map[api.Errno]int{}
	for i, s := range l {
		many[orders.Check(api.Order{Id: 1, Ref: "r", Sku: s, Qty: 1, Amount: 1})]++
		if slices.Contains(l[:i], s) {
			t.Errorf("%.50q is there twice", s)
		}
	}
	if many[api.OK] < 10 || many[api.ErrArg] < 30 || many[api.ErrLong] < 10 || !slices.Contains(l, "") {
		t.Errorf("so many names by what is told of them: %v", many)
	}
}
