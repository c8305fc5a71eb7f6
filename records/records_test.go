package records

import (
	"encoding/binary"
	"hash/crc32"
	"math"
	"math/rand"
	"slices"
	"strings"
	"testing"

	"consignor/api"
	"consignor/samples"
)

// sealed is a text with its sum behind it, by the library.
func sealed(s string) string {
	return string(binary.LittleEndian.AppendUint32([]byte(s), crc32.Checksum([]byte(s), crc32.MakeTable(crc32.Castagnoli))))
}

// length is a payload's length in four bytes.
func length(payload string) string {
	return string(binary.BigEndian.AppendUint32(nil, uint32(len(payload))))
}

// byWords is the record of a payload by the chapter's words and the library: of a payload of any length.
func byWords(payload string) string { return sealed(length(payload) + payload) }

// all are the records of payloads, one behind the other.
func all(payloads ...string) string {
	s := ""
	for _, p := range payloads {
		s += byWords(p)
	}
	return s
}

// long is a mixed text of so many bytes.
func long(size int) string {
	b := make([]byte, size)
	rand.New(rand.NewSource(int64(size))).Read(b)
	return string(b)
}

// somePayloads are short ones of few bytes, records themselves, and such as turn at a length's bytes, up to the longest.
func somePayloads() []string {
	l := samples.Texts("\x00\x04\x80\xFFa", 3)
	l = append(l, byWords(""), byWords("ab"), byWords("ab")[:9], all("a", "", "b"), byWords(byWords("x")), "\x00\x00\x00\x02", "\x00\x00\x00\x00\x00\x00\x00")
	for _, size := range []int{255, 256, 257, 4096, 65535, 65536} {
		l = append(l, long(size), strings.Repeat("\x00", size), strings.Repeat("\xFF", size))
	}
	return l
}

// stands is the payload of the record that stands at a place by the chapter's words: that of which the text goes on as its record.
func stands(s string, at int) (string, int, bool) {
	if at < 0 || at > len(s) {
		return "", 0, false
	}
	for size := 0; size <= 65536 && at+size+8 <= len(s); size++ {
		// A record begins with its length, so the text goes on as the record of one length alone.
		if uint32(size) != binary.BigEndian.Uint32([]byte(s[at:at+4])) {
			continue
		}
		payload := s[at+4 : at+4+size]
		if strings.HasPrefix(s[at:], byWords(payload)) {
			return payload, at + size + 8, true
		}
	}
	return "", 0, false
}

// inARow are the records that stand one behind the other from the front on, and where they end, by the chapter's words.
func inARow(s string) (payloads []string, end int) {
	for {
		payload, next, ok := stands(s, end)
		if !ok {
			return payloads, end
		}
		payloads, end = append(payloads, payload), next
	}
}

// gets holds what is told of a place.
func gets(t *testing.T, s string, at int, payload string, next int, ok bool) {
	t.Helper()
	if p, n, is := Get(s, at); p != payload || n != next || is != ok {
		t.Errorf("Get(%.60x, %d), of %d bytes: %.60x, %d, %v; want %.60x, %d, %v", s, at, len(s), p, n, is, payload, next, ok)
	}
}

// getsNone holds that no record stands at a place.
func getsNone(t *testing.T, s string, at int) {
	t.Helper()
	gets(t, s, at, "", 0, false)
}

// finds holds which records stand one behind the other, and where they end.
func finds(t *testing.T, s string, payloads []string, end int) {
	t.Helper()
	if l, e := Whole(s); !slices.Equal(l, payloads) || e != end {
		t.Errorf("Whole(%.60x), of %d bytes: %.100x, %d; want %.100x, %d", s, len(s), l, e, payloads, end)
	}
}

// isRead holds what is told of any bytes, at each place and beside them, against the chapter's words.
func isRead(t *testing.T, s string) {
	t.Helper()
	for at := -2; at <= len(s)+2; at++ {
		payload, next, ok := stands(s, at)
		gets(t, s, at, payload, next, ok)
	}
	payloads, end := inARow(s)
	finds(t, s, payloads, end)
}

// P7.1: the length in four bytes, the highest first, the payload, and the sum of both, the lowest byte first.
func TestPut(t *testing.T) {
	for payload, want := range map[string]string{
		"":                 "\x00\x00\x00\x00\xC7\x4B\x67\x48",
		"a":                "\x00\x00\x00\x01a\x23\xFE\x7D\xC5",
		"ab":               "\x00\x00\x00\x02ab\x63\x70\x86\x0B",
		"\x00":             "\x00\x00\x00\x01\x00\x42\xEE\xD0\x56",
		"\x00\x00\x00\x00": "\x00\x00\x00\x04\x00\x00\x00\x00\x3A\x0C\x6D\x6C",
		"\xFF\xFF\xFF\xFF": "\x00\x00\x00\x04\xFF\xFF\xFF\xFF\x02\xB8\xF5\xDB",
		"123456789":        "\x00\x00\x00\x09123456789\x6F\xCF\x34\x69",
		"The quick brown fox jumps over the lazy dog": "\x00\x00\x00\x2BThe quick brown fox jumps over the lazy dog\xB3\x16\x2C\x65",
		strings.Repeat("\x00", 32):                    "\x00\x00\x00\x20" + strings.Repeat("\x00", 32) + "\xA9\x6F\x54\x9C",
	} {
		if s, e := Put(payload); s != want || e != api.OK {
			t.Errorf("Put(%x): %x, %d; want %x", payload, s, int(e), want)
		}
	}
}

// P7.1: so it is of payloads of all sizes up to the longest; it has 8 bytes more.
func TestPutOfSome(t *testing.T) {
	for _, payload := range somePayloads() {
		s, e := Put(payload)
		if s != byWords(payload) || len(s) != len(payload)+8 || e != api.OK {
			t.Errorf("Put(%.40x), of %d bytes: %.60x, of %d bytes, %d", payload, len(payload), s, len(s), int(e))
		}
	}
	for size, head := range map[int]string{255: "\x00\x00\x00\xFF", 256: "\x00\x00\x01\x00", 65535: "\x00\x00\xFF\xFF", 65536: "\x00\x01\x00\x00"} {
		if s, _ := Put(long(size)); !strings.HasPrefix(s, head) {
			t.Errorf("Put of %d bytes begins with %x", size, s[:min(4, len(s))])
		}
	}
}

// P7.1: a payload of more than 65536 bytes: ErrLong, and nothing.
func TestPutOfTooLong(t *testing.T) {
	for _, size := range []int{65537, 65538, 65544, 70000, 1 << 17, 1 << 20, 1<<20 + 1} {
		if s, e := Put(strings.Repeat("a", size)); s != "" || e != api.ErrLong {
			t.Errorf("Put of %d bytes: %d bytes, %d", size, len(s), int(e))
		}
	}
}

// P7.1: the payload that stands there, and the place behind its record, whatever is ahead and behind.
func TestGet(t *testing.T) {
	for _, payload := range somePayloads() {
		s := byWords(payload)
		for _, ahead := range []string{"", "x", "\x00", "\xFF\xFF\xFF\xFF\xFF", byWords("q")} {
			for _, behind := range []string{"", "y", "\x00", "\xFF\xFF\xFF\xFF\xFF\xFF\xFF\xFF", byWords("ab"), s} {
				gets(t, ahead+s+behind, len(ahead), payload, len(ahead)+len(s), true)
			}
		}
	}
}

// P7.1: a place that is not from 0 up to the text's length, or so near the end that nothing goes on there.
func TestGetOfNoPlace(t *testing.T) {
	for _, s := range []string{"", "\x00", "\x00\x00\x00\x00", byWords(""), byWords("ab"), all("", "", ""), byWords(long(65536))} {
		for _, at := range []int{-1, -2, -4, -8, -len(s) - 1, math.MinInt, math.MinInt + 4, math.MinInt + 8, -1 << 32, -1 << 31,
			len(s), len(s) + 1, len(s) + 8, 1 << 31, 1 << 32, math.MaxInt, math.MaxInt - 1, math.MaxInt - 3, math.MaxInt - 4, math.MaxInt - 7, math.MaxInt - 8} {
			getsNone(t, s, at)
		}
		for at := max(0, len(s)-7); at <= len(s); at++ {
			getsNone(t, s, at)
		}
	}
}

// P7.1: a text that does not go on as a record: no such length, too few bytes, another sum.
func TestGetOfNone(t *testing.T) {
	for _, s := range []string{
		"", "\x00", "\x00\x00\x00", "\x00\x00\x00\x00", "\x00\x00\x00\x00\x00\x00\x00", "abcdefgh", "\xFF\xFF\xFF\xFF\xFF\xFF\xFF\xFF",
		"\x00\x00\x00\x00\x00\x00\x00\x00", "\x00\x00\x00\x00\xFF\xFF\xFF\xFF", "\x00\x00\x00\x01\x00\x00\x00\x00",
		"\x00\x00\x00\x00\xC7\x4B\x67", "\x00\x00\x00\x00\x48\x67\x4B\xC7", "\x00\x00\x00\x00\xC7\x4B\x67\x49", "\x00\x00\x00\x00\x38\xB4\x98\xB7", "\x00\x00\x00\xC7\x4B\x67\x48",
		"\x00\x00\x00\x01a\x23\xFE\x7D", "\x00\x00\x00\x01a\xC5\x7D\xFE\x23", "\x00\x00\x00\x01b\x23\xFE\x7D\xC5", "\x00\x00\x00\x01a\x00\x00\x00\x00", "\x00\x00\x00\x01a\x30\x43\xD0\xC1",
		"\x01\x00\x00\x00a\x23\xFE\x7D\xC5", "\x00\x00\x01a\x23\xFE\x7D\xC5", "\x01a\x23\xFE\x7D\xC5", "a\x23\xFE\x7D\xC5",
		"\x00\x00\x00\x02a\x23\xFE\x7D\xC5", "\x00\x00\x00\x02a\x23\xFE\x7D\xC5\x00", "\x00\x00\x00\x00a\x23\xFE\x7D\xC5",
	} {
		getsNone(t, s, 0)
		getsNone(t, "x"+s, 1)
		getsNone(t, all("ab")+s, 10)
		finds(t, s, nil, 0)
	}
}

// P7.1: what is sealed is no record, where the four bytes ahead are not the length of what is between these and the sum.
func TestGetOfOtherLength(t *testing.T) {
	for _, s := range []string{
		sealed(""), sealed("a"), sealed("\x01a"), sealed("\x00\x01a"), sealed("\x00\x00\x01a"), sealed("\x01\x00\x00\x00a"),
		sealed("\x00\x00\x00\x01"), sealed("\x00\x00\x00\x02a"), sealed("\x00\x00\x00\x02a") + "\x00", sealed("\x00\x00\x00\x00a"), sealed("\x00\x00\x00\x05a"), sealed("\x00\x00\x00\x09a"),
		sealed("\x80\x00\x00\x00"), sealed("\xFF\xFF\xFF\xFF"), sealed("\xFF\xFF\xFF\xF8"), sealed("\xFF\xFF\xFF\xFC"), sealed("\x7F\xFF\xFF\xFFa"),
		sealed("\x80\x00\x00\x01a"), sealed("\x00\x01\x00\x01a"), sealed("\x01\x00\x00\x01a"),
	} {
		getsNone(t, s, 0)
		getsNone(t, "x"+s, 1)
		getsNone(t, all("ab")+s, 10)
		finds(t, s, nil, 0)
		finds(t, s+s, nil, 0)
	}
}

// P7.1: a length, and behind it the payload with the sum of the payload alone, is no record, of whatever payload.
func TestSealedWithoutLength(t *testing.T) {
	for _, payload := range somePayloads() {
		s := length(payload) + sealed(payload)
		if put, _ := Put(payload); put == s {
			t.Errorf("Put(%.40x), of %d bytes: the length is not in its sum", payload, len(payload))
		}
		getsNone(t, s, 0)
		getsNone(t, "x"+s+"y", 1)
		finds(t, s, nil, 0)
		finds(t, all("ab", "")+s+all("c"), []string{"ab", ""}, 18)
	}
}

// P7.1: bytes that are all 0 are no record, however many there are, and wherever.
func TestGetOfNoughts(t *testing.T) {
	for _, many := range []int{8, 9, 16, 23, 24, 40, 65544, 70000} {
		noughts := strings.Repeat("\x00", many)
		for at := range min(many, 50) {
			getsNone(t, noughts, at)
			getsNone(t, noughts, many-at)
		}
		finds(t, noughts, nil, 0)
		finds(t, all("ab", "")+noughts+all("c"), []string{"ab", ""}, 18)
	}
	getsNone(t, all("", "a"), 1)
	getsNone(t, all("", "", ""), 4)
}

// P7.1: a payload has at most 65536 bytes: of one byte more there is no record, whatever its sum.
func TestGetOfTooLong(t *testing.T) {
	for _, size := range []int{65537, 65538, 70000, 1 << 17, 1 << 20} {
		s := byWords(long(size))
		getsNone(t, s, 0)
		getsNone(t, "x"+s+"y", 1)
		finds(t, s, nil, 0)
		finds(t, all("a", "b")+s+byWords("c"), []string{"a", "b"}, 18)
	}
	most := long(65536)
	gets(t, byWords(most), 0, most, 65544, true)
	finds(t, all(most, "", most)+byWords(long(65537)), []string{most, "", most}, 131096)
}

// P7.1: the records from the front on, up to the first place where none stands; what stands behind that is not looked for.
func TestWhole(t *testing.T) {
	ab, c := byWords("ab"), byWords("c")
	for _, x := range []struct {
		s    string
		want []string
		end  int
	}{
		{"", nil, 0}, {"x", nil, 0}, {"\x00\x00\x00\x00\x00\x00\x00", nil, 0}, {"x" + ab, nil, 0}, {ab[1:], nil, 0}, {ab[:9] + ab, nil, 0},
		{byWords(""), []string{""}, 8}, {all("", "", "")[:23], []string{"", ""}, 16}, {all("", "", ""), []string{"", "", ""}, 24}, {all("", "a"), []string{"", "a"}, 17},
		{ab, []string{"ab"}, 10}, {ab + ab, []string{"ab", "ab"}, 20}, {ab + c, []string{"ab", "c"}, 19}, {c + ab, []string{"c", "ab"}, 19},
		{ab + "x", []string{"ab"}, 10}, {ab + "x" + c, []string{"ab"}, 10}, {ab + c[:8] + c, []string{"ab"}, 10}, {ab + c[1:] + ab, []string{"ab"}, 10},
		{ab + "\x00\x00\x00\x01d" + c[5:] + ab, []string{"ab"}, 10}, {byWords(ab + c), []string{ab + c}, 27}, {byWords(ab) + c, []string{ab, "c"}, 27},
	} {
		finds(t, x.s, x.want, x.end)
	}
}

// P7.1, P7.2: all short texts of bytes that may be a length's, alone and behind such, and ahead of a sum that is right.
func TestOfAllShortTexts(t *testing.T) {
	for _, s := range samples.Texts("\x00\x01\x02\xFF", 5) {
		isRead(t, s)
		isRead(t, "\x00\x00\x00"+s)
		isRead(t, "\x00\x00\x00"+s+"\x42\xEE\xD0\x56")
		isRead(t, sealed(s))
		isRead(t, sealed("\x00\x00\x00"+s))
		isRead(t, byWords(s)+s)
		isRead(t, s+byWords(s))
	}
}

// P7.1, P7.2, of any bytes; and of them, put.
func FuzzOfAny(f *testing.F) {
	for _, s := range samples.Texts("\x00\x01\xFF", 2) {
		f.Add(s)
		f.Add(byWords(s) + s + byWords(s))
		f.Add(length(s) + sealed(s))
	}
	f.Add(all("ab", "", "c") + "\x00\x00")
	f.Fuzz(func(t *testing.T, s string) {
		if len(s) > 2000 {
			s = s[:2000]
		}
		isRead(t, s)
		put, e := Put(s)
		if put != byWords(s) || e != api.OK {
			t.Errorf("Put(%x): %x, %d", s, put, int(e))
		}
		gets(t, s+put+s, len(s), s, len(s)+len(put), true)
		finds(t, put+put, []string{s, s}, 2*len(put))
	})
}

// P7.2: what was put, one behind the other, is found, in order; Get leads from each to the next.
func TestWhatIsPutIsFound(t *testing.T) {
	payloads := somePayloads()
	mix := rand.New(rand.NewSource(7))
	for range 20 {
		mix.Shuffle(len(payloads), func(i, j int) { payloads[i], payloads[j] = payloads[j], payloads[i] })
		some := payloads[:mix.Intn(len(payloads))]
		s := ""
		for _, p := range some {
			put, e := Put(p)
			if e != api.OK {
				t.Fatalf("Put(%.40x): %d", p, int(e))
			}
			gets(t, s+put, len(s), p, len(s)+len(put), true)
			s += put
		}
		finds(t, s, some, len(s))
		finds(t, s+"\x00\x00\x00\x01", some, len(s))
	}
	for _, one := range samples.Texts("\x00a", 2) {
		for _, two := range payloads {
			finds(t, all(one, two), []string{one, two}, len(one)+len(two)+16)
		}
	}
}

// P7.2: of what is cut off at any place just the records that are whole are found, whatever their bytes are.
func TestCutOff(t *testing.T) {
	for _, payloads := range [][]string{
		{""}, {"", "", ""}, {"ab", "ab"}, {"ab", "", "c"}, {"\x00\x00\x00\x00", "\x00"}, {strings.Repeat("\x00", 40), strings.Repeat("\xFF", 40)},
		{byWords("ab"), all("", "", "c"), byWords(byWords("x"))}, {all("a", "b", "c")[:20], "\x00\x00\x00\x01a"}, {long(300), "", long(256)},
	} {
		s := all(payloads...)
		for size := range len(s) + 1 {
			many, end := 0, 0
			for many < len(payloads) && end+len(payloads[many])+8 <= size {
				end += len(payloads[many]) + 8
				many++
			}
			finds(t, s[:size], payloads[:many], end)
			getsNone(t, s[:size], end)
		}
	}
	s := byWords(long(65536))
	for _, size := range []int{0, 3, 4, 5, 7, 8, 9, 65535, 65536, 65539, 65540, 65541, 65543} {
		getsNone(t, s[:size], 0)
		finds(t, byWords("ab")+s[:size], []string{"ab"}, 10)
	}
}

// isNoMore holds that a record stands no more where bits behind its first four bytes are turned over; those ahead of it do.
func isNoMore(t *testing.T, payload string, place int, bits uint32) {
	t.Helper()
	other := samples.Turned(byWords(payload), place, bits)
	getsNone(t, other, 0)
	getsNone(t, "x"+other+"y", 1)
	finds(t, byWords("ab")+other+byWords("c"), []string{"ab"}, 10)
}

// P7.2: some bits within four bytes, side by side, in the payload, in its sum, or over both.
func TestTurnedOver(t *testing.T) {
	for _, bits := range samples.Patterns() {
		for _, payload := range []string{"", "a", "\x00\x00", "abc", "\x00\x00\x00\x00", "\xFF\xFF\xFF\xFF", "12345678", byWords("ab"), "consignor\x00\x80\xFF"} {
			for place := 4; place+4 <= len(payload)+8; place++ {
				isNoMore(t, payload, place, bits)
			}
		}
	}
}

// P7.2: so it is in the longest ones.
func TestTurnedOverInLong(t *testing.T) {
	for _, payload := range []string{long(65536), strings.Repeat("\x00", 65535)} {
		for _, bits := range []uint32{1, 0x80, 0x80000000, 0x82F63B78, 0xFFFFFFFF} {
			for _, place := range []int{4, 5, 1000, 32768, 65530, len(payload), len(payload) + 1, len(payload) + 3, len(payload) + 4} {
				isNoMore(t, payload, place, bits)
			}
		}
	}
}

// The chapter's examples.
func TestExamples(t *testing.T) {
	s, e := Put("ab")
	if len(s) != 10 || !strings.HasPrefix(s, "\x00\x00\x00\x02\x61\x62") || e != api.OK {
		t.Fatalf("Put(ab): %x, %d", s, int(e))
	}
	gets(t, s, 0, "ab", 10, true)
	getsNone(t, s, 1)
	finds(t, s+s, []string{"ab", "ab"}, 20)
	finds(t, (s + s)[:19], []string{"ab"}, 10)
}

// R2, R4: asked again, the same is answered, whatever was asked between; lists that are told are the caller's own.
func TestSameAgain(t *testing.T) {
	s := all("ab", "", "c") + "x"
	l, _ := Whole(s)
	_ = append(l, "more")
	slices.Reverse(l)
	l[0] = "other"
	Put("other")
	Get(byWords("other"), 0)
	finds(t, s, []string{"ab", "", "c"}, 27)
	if l[0] != "other" || l[1] != "" || l[2] != "ab" {
		t.Errorf("what was told is %q", l)
	}
}
