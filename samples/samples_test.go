package samples

import (
	"slices"
	"testing"
)

// All texts are there, each once: tests that go through them leave none out.
func TestTexts(t *testing.T) {
	for _, x := range []struct {
		letters string
		most    int
		want    []string
	}{
		{"ab", 0, []string{""}}, {"ab", -1, []string{""}}, {"", 3, []string{""}},
		{"a", 3, []string{"", "a", "aa", "aaa"}},
		{"\x00\xFF", 2, []string{"", "\x00", "\xFF", "\x00\x00", "\x00\xFF", "\xFF\x00", "\xFF\xFF"}},
	} {
		if l := Texts(x.letters, x.most); !slices.Equal(l, x.want) {
			t.Errorf("Texts(%q, %d): %q; want %q", x.letters, x.most, l, x.want)
		}
	}
}
