package tests

import (
	"fmt"
	"math"
	"strings"
	"testing"
	"unsafe"

	"loop.example/g03106/impl"
)

const maxText = 120

// extremeInts returns integers far outside any text: a sum, difference or product with one of them may overflow.
func extremeInts() []int {
	return []int{
		math.MinInt64, math.MinInt64 + 1, math.MinInt64 + 2, math.MinInt64 + 60, math.MinInt64 + 119, math.MinInt64 + 120, math.MinInt64 + 121, math.MinInt64 + 122,
		math.MaxInt64, math.MaxInt64 - 1, math.MaxInt64 - 59, math.MaxInt64 - 119, math.MaxInt64 - 120, math.MaxInt64 - 121,
		1 << 62, -1 << 62, 1 << 32, -1 << 32, 1<<32 + 1, 1 << 31, -1 << 31, 1 << 16, 1 << 8, 1<<8 + 1, -1 << 8,
	}
}

// patternText is a text of any length whose neighbouring 256 bytes are distinct, half of them above 127.
func patternText(size int) string {
	text := make([]byte, size)
	for i := range text {
		text[i] = byte(7*i + 97)
	}
	return string(text)
}

// checkText compares what a function returned with the text that is wanted, or with "" and false.
func checkText(t *testing.T, name string, got string, ok bool, want string, accepted bool) {
	t.Helper()
	if !accepted {
		want = ""
	}
	if got != want || ok != accepted {
		t.Fatalf("%s = %.200q, %v, want %.200q, %v", name, got, ok, want, accepted)
	}
}

// positionsOf lists by counting from either end what every position of a text of n bytes denotes.
func positionsOf(n int) map[int]int {
	all := map[int]int{}
	fromEnd := 0
	for p := n + 1; p >= 1; p-- {
		all[p] = p
		all[fromEnd] = p
		fromEnd--
	}
	return all
}

func TestMaxText(t *testing.T) {
	if impl.MaxText != maxText {
		t.Errorf("MaxText = %d", impl.MaxText)
	}
}

func TestNormalizePositionEdges(t *testing.T) {
	cases := []struct {
		p, n     int
		want     int
		accepted bool
	}{
		{0, 0, 1, true}, {1, 0, 1, true}, {-1, 0, 0, false}, {2, 0, 0, false},
		{0, 1, 2, true}, {1, 1, 1, true}, {2, 1, 2, true}, {-1, 1, 1, true}, {-2, 1, 0, false}, {3, 1, 0, false},
		{1, 6, 1, true}, {6, 6, 6, true}, {7, 6, 7, true}, {8, 6, 0, false},
		{0, 6, 7, true}, {-1, 6, 6, true}, {-5, 6, 2, true}, {-6, 6, 1, true}, {-7, 6, 0, false},
		{1, 120, 1, true}, {121, 120, 121, true}, {122, 120, 0, false}, {0, 120, 121, true}, {-120, 120, 1, true}, {-121, 120, 0, false},
		{1, 121, 0, false}, {0, 121, 0, false}, {-1, 121, 0, false}, {1, -1, 0, false}, {0, -1, 0, false}, {-1, -1, 0, false},
		{1, math.MaxInt64, 0, false}, {0, math.MaxInt64, 0, false}, {0, math.MinInt64, 0, false}, {1, math.MinInt64, 0, false},
		{math.MinInt64, math.MinInt64, 0, false}, {math.MaxInt64, math.MaxInt64, 0, false}, {math.MinInt64, 120, 0, false}, {math.MaxInt64, 120, 0, false},
	}
	for _, c := range cases {
		if got, ok := impl.NormalizePosition(c.p, c.n); got != c.want || ok != c.accepted {
			t.Errorf("NormalizePosition(%d, %d) = %d, %v, want %d, %v", c.p, c.n, got, ok, c.want, c.accepted)
		}
	}
}

func TestNormalizePositionOfEveryPosition(t *testing.T) {
	lengths := extremeInts()
	for n := -125; n <= 250; n++ {
		lengths = append(lengths, n)
	}
	candidates := extremeInts()
	for p := -260; p <= 260; p++ {
		candidates = append(candidates, p)
	}
	for _, n := range lengths {
		all := map[int]int{}
		if 0 <= n && n <= maxText {
			all = positionsOf(n)
		}
		for _, p := range candidates {
			want, accepted := all[p]
			if got, ok := impl.NormalizePosition(p, n); got != want || ok != accepted {
				t.Fatalf("NormalizePosition(%d, %d) = %d, %v, want %d, %v", p, n, got, ok, want, accepted)
			}
		}
	}
}

func TestSectionOf(t *testing.T) {
	cases := []struct {
		text     string
		i, j     int
		want     string
		accepted bool
	}{
		{"banana", 3, 0, "nana", true},
		{"banana", 0, 3, "nana", true},
		{"banana", 1, 0, "banana", true},
		{"banana", -6, 7, "banana", true},
		{"banana", 1, 2, "b", true},
		{"banana", 2, 1, "b", true},
		{"banana", -1, 0, "a", true},
		{"banana", -4, -2, "na", true},
		{"banana", -2, -4, "na", true},
		{"banana", 4, -3, "", true},
		{"banana", 7, 0, "", true},
		{"banana", 8, 0, "", false},
		{"banana", 0, 8, "", false},
		{"banana", -7, 1, "", false},
		{"banana", 1, -7, "", false},
		{"banana", 8, -7, "", false},
		{"banana", 8, 8, "", false},
		{"", 0, 1, "", true},
		{"", 1, 1, "", true},
		{"", 0, 0, "", true},
		{"", 1, 2, "", false},
		{"", -1, 0, "", false},
		{"\u00e9\xff\x00", 2, 4, "\xa9\xff", true},
		{"\u00e9\xff\x00", -1, 0, "\x00", true},
	}
	for _, c := range cases {
		got, ok := impl.SectionOf(c.text, c.i, c.j)
		checkText(t, fmt.Sprintf("SectionOf(%q, %d, %d)", c.text, c.i, c.j), got, ok, c.want, c.accepted)
	}
}

// sectionBetween collects the bytes that have one of the two positions on each side.
func sectionBetween(s string, one int, other int) string {
	text := ""
	for k := range len(s) {
		before, after := k+1, k+2
		if one <= before && after <= other || other <= before && after <= one {
			text += s[k : k+1]
		}
	}
	return text
}

func TestSectionOfEveryPair(t *testing.T) {
	for _, n := range []int{0, 1, 2, 3, 7, 8, 119, 120, 121, 122, 300} {
		s := patternText(n)
		all := map[int]int{}
		if n <= maxText {
			all = positionsOf(n)
		}
		candidates := extremeInts()
		for p := -n - 3; p <= n+4; p++ {
			candidates = append(candidates, p)
		}
		for _, i := range candidates {
			for _, j := range candidates {
				one, hasOne := all[i]
				other, hasOther := all[j]
				want := ""
				if hasOne && hasOther {
					want = sectionBetween(s, one, other)
				}
				if got, ok := impl.SectionOf(s, i, j); got != want || ok != (hasOne && hasOther) {
					t.Fatalf("SectionOf of %d bytes, %d and %d, is %q, %v, want %q", n, i, j, got, ok, want)
				}
			}
		}
	}
}

func TestPositionsDivideStrings(t *testing.T) {
	for n := range maxText + 1 {
		s := patternText(n)
		for p := 1; p <= n+1; p++ {
			checkDivision(t, s, p, p)
			checkDivision(t, s, p-n-1, p)
		}
	}
}

// checkDivision checks that p is the given position from the beginning, and that the parts before and after it are s.
func checkDivision(t *testing.T, s string, p int, fromStart int) {
	t.Helper()
	normal, hasNormal := impl.NormalizePosition(p, len(s))
	again, hasAgain := impl.NormalizePosition(normal, len(s))
	if normal != fromStart || again != normal || !hasNormal || !hasAgain {
		t.Fatalf("the position %d of %d bytes is %d, and that is %d, want %d", p, len(s), normal, again, fromStart)
	}
	before, hasBefore := impl.SectionOf(s, 1, p)
	after, hasAfter := impl.SectionOf(s, p, 0)
	if !hasBefore || !hasAfter || before+after != s || len(before) != fromStart-1 {
		t.Fatalf("the position %d divides %q into %q and %q", p, s, before, after)
	}
	joined, ok := impl.ConcatTexts(before, after)
	if joined != s || !ok {
		t.Fatalf("ConcatTexts(%q, %q) = %q, %v", before, after, joined, ok)
	}
	if here, ok := impl.SectionOf(s, p, normal); here != "" || !ok {
		t.Fatalf("between the position %d and itself is %q, %v", p, here, ok)
	}
}

func TestConcatTexts(t *testing.T) {
	long := strings.Repeat("x", 100000)
	cases := []struct{ a, b, want string }{
		{"", "", ""}, {"ab", "", "ab"}, {"", "ab", "ab"}, {"ab", "c", "abc"}, {"c", "ab", "cab"}, {"\xff", "\x00", "\xff\x00"}, {"\xc3", "\xa9", "\u00e9"},
	}
	for _, c := range cases {
		got, ok := impl.ConcatTexts(c.a, c.b)
		checkText(t, fmt.Sprintf("ConcatTexts(%q, %q)", c.a, c.b), got, ok, c.want, true)
	}
	for _, pair := range [][2]string{{long, ""}, {"", long}, {long, "a"}, {"a", long}, {long, long}} {
		got, ok := impl.ConcatTexts(pair[0], pair[1])
		checkText(t, "ConcatTexts of a long text", got, ok, "", false)
	}
	all := patternText(300)
	for m := range 130 {
		for n := range 130 {
			got, ok := impl.ConcatTexts(all[:m], all[m:m+n])
			checkText(t, fmt.Sprintf("ConcatTexts of %d and %d bytes", m, n), got, ok, all[:m+n], m+n <= 120)
		}
	}
}

func TestReplicateText(t *testing.T) {
	cases := []struct {
		text     string
		n        int
		want     string
		accepted bool
	}{
		{"abc", 0, "", true}, {"abc", 1, "abc", true}, {"abc", 2, "abcabc", true}, {"abc", 40, strings.Repeat("abc", 40), true},
		{"abc", 41, "", false}, {"abc", -1, "", false}, {"x", 120, strings.Repeat("x", 120), true}, {"x", 121, "", false},
		{"", 0, "", true}, {"", 1, "", true}, {"", 121, "", true}, {"", math.MaxInt64, "", true}, {"", -1, "", false}, {"", math.MinInt64, "", false},
		{"\xff\x00", 2, "\xff\x00\xff\x00", true}, {"\u00e9", 2, "\u00e9\u00e9", true},
		// The product of the length and the number is 0, or small, modulo 2^64.
		{"abcd", 1 << 62, "", false}, {"ab", math.MinInt64, "", false}, {"ab", math.MaxInt64, "", false}, {"abcd", 1<<62 + 1, "", false},
		{patternText(64), 1 << 58, "", false}, {patternText(3), 6148914691236517206, "", false}, {patternText(5), 3689348814741910324, "", false},
		{patternText(60), 2, patternText(60) + patternText(60), true}, {patternText(61), 2, "", false},
		{patternText(120), 1, patternText(120), true}, {patternText(120), 2, "", false}, {patternText(120), 0, "", true},
		{patternText(121), 0, "", false}, {patternText(121), 1, "", false}, {patternText(121), -1, "", false},
		{patternText(100000), 0, "", false}, {patternText(100000), 1, "", false}, {patternText(100000), math.MaxInt64, "", false},
	}
	for _, c := range cases {
		got, ok := impl.ReplicateText(c.text, c.n)
		checkText(t, fmt.Sprintf("ReplicateText of %d bytes, %d times", len(c.text), c.n), got, ok, c.want, c.accepted)
	}
}

func TestReplicateTextOfAllLengths(t *testing.T) {
	for size := range 125 {
		s := patternText(size)
		for n := -2; n <= 125; n++ {
			accepted := n >= 0 && size <= 120 && n*size <= 120
			want := ""
			if accepted {
				want = strings.Repeat(s, n)
			}
			got, ok := impl.ReplicateText(s, n)
			checkText(t, fmt.Sprintf("ReplicateText of %d bytes, %d times", size, n), got, ok, want, accepted)
		}
		for _, n := range extremeInts() {
			got, ok := impl.ReplicateText(s, n)
			checkText(t, fmt.Sprintf("ReplicateText of %d bytes, %d times", size, n), got, ok, "", size == 0 && n > 0)
		}
	}
}

func TestReverseText(t *testing.T) {
	cases := [][2]string{
		{"", ""}, {"a", "a"}, {"ab", "ba"}, {"abc", "cba"}, {"banana", "ananab"}, {"\x00\xff", "\xff\x00"}, {"\u00e9", "\xa9\xc3"}, {"a\U0001f600", "\x80\x98\x9f\xf0a"},
	}
	for _, c := range cases {
		if got := impl.ReverseText(c[0]); got != c[1] {
			t.Errorf("ReverseText(%q) = %q, want %q", c[0], got, c[1])
		}
	}
	for _, size := range []int{1, 2, 3, 4, 5, 119, 120, 121, 256, 100000, 100001} {
		s := patternText(size)
		got := impl.ReverseText(s)
		if len(got) != size {
			t.Fatalf("ReverseText of %d bytes has %d", size, len(got))
		}
		for k := range size {
			if got[k] != s[size-1-k] {
				t.Fatalf("ReverseText of %d bytes has %d at the index %d", size, got[k], k)
			}
		}
		if impl.ReverseText(got) != s {
			t.Fatalf("ReverseText of %d bytes is not its own inverse", size)
		}
	}
}

// padder is a function with the rule by which it adds or cuts a byte at the left, given how many bytes are to be added or cut.
type padder struct {
	name    string
	call    func(s string, n int, pad byte) (string, bool)
	padLeft func(missing int) bool
	cutLeft func(extra int) bool
}

// For the middle the sides take turns and end at the right, so that an odd number leaves less at the left.
func padders() []padder {
	never := func(int) bool { return false }
	always := func(int) bool { return true }
	even := func(k int) bool { return k%2 == 0 }
	return []padder{
		{"LeftText", impl.LeftText, never, never},
		{"RightText", impl.RightText, always, always},
		{"CenterText", impl.CenterText, even, even},
	}
}

// padded adds or cuts one byte at a time until s has n bytes.
func (p padder) padded(s string, n int, pad byte) string {
	for len(s) < n {
		if p.padLeft(n - len(s)) {
			s = bytesOf(pad) + s
		} else {
			s += bytesOf(pad)
		}
	}
	for len(s) > n {
		if p.cutLeft(len(s) - n) {
			s = s[1:]
		} else {
			s = s[:len(s)-1]
		}
	}
	return s
}

func TestPaddedTexts(t *testing.T) {
	cases := []struct {
		text                string
		n                   int
		pad                 byte
		left, right, center string
	}{
		{"", 0, '.', "", "", ""},
		{"", 3, '.', "...", "...", "..."},
		{"ab", 0, '.', "", "", ""},
		{"ab", 1, '.', "a", "b", "a"},
		{"ab", 2, '.', "ab", "ab", "ab"},
		{"ab", 3, '.', "ab.", ".ab", "ab."},
		{"ab", 4, '.', "ab..", "..ab", ".ab."},
		{"ab", 5, '.', "ab...", "...ab", ".ab.."},
		{"a", 4, '.', "a...", "...a", ".a.."},
		{"abc", 1, '.', "a", "c", "b"},
		{"abc", 2, '.', "ab", "bc", "ab"},
		{"abcd", 1, '.', "a", "d", "b"},
		{"abcd", 2, '.', "ab", "cd", "bc"},
		{"abcde", 2, '.', "ab", "de", "bc"},
		{"abcde", 3, '.', "abc", "cde", "bcd"},
		{"ab", 3, 0, "ab\x00", "\x00ab", "ab\x00"},
		{"ab", 4, 0xff, "ab\xff\xff", "\xff\xffab", "\xffab\xff"},
		{"aa", 4, 'a', "aaaa", "aaaa", "aaaa"},
		{"\u00e9", 1, '.', "\xc3", "\xa9", "\xc3"},
	}
	for _, c := range cases {
		for k, p := range padders() {
			want := [3]string{c.left, c.right, c.center}[k]
			got, ok := p.call(c.text, c.n, c.pad)
			checkText(t, fmt.Sprintf("%s(%q, %d, %q)", p.name, c.text, c.n, c.pad), got, ok, want, true)
		}
	}
}

func TestPaddedTextsOfAllLengths(t *testing.T) {
	for _, p := range padders() {
		for size := range 131 {
			s := patternText(size)
			for n := range 124 {
				got, ok := p.call(s, n, byte(3*n))
				checkText(t, fmt.Sprintf("%s of %d bytes to %d", p.name, size, n), got, ok, p.padded(s, n, byte(3*n)), n <= 120)
			}
		}
	}
}

func TestPaddedTextsOfLongTexts(t *testing.T) {
	for _, size := range []int{255, 256, 257, 1000, 1001, 30000, 30001} {
		s := patternText(size)
		for _, p := range padders() {
			for _, n := range []int{0, 1, 2, 119, 120} {
				got, ok := p.call(s, n, '.')
				checkText(t, fmt.Sprintf("%s of %d bytes to %d", p.name, size, n), got, ok, p.padded(s, n, '.'), true)
			}
			got, ok := p.call(s, 121, '.')
			checkText(t, fmt.Sprintf("%s of %d bytes to 121", p.name, size), got, ok, "", false)
		}
	}
}

func TestPaddedTextsReject(t *testing.T) {
	lengths := append(extremeInts(), -1, -2, -60, -120, -121, 121, 122, 240, 241)
	for _, p := range padders() {
		for _, size := range []int{0, 1, 2, 119, 120, 121, 122, 100000} {
			for _, n := range lengths {
				got, ok := p.call(patternText(size), n, '.')
				checkText(t, fmt.Sprintf("%s of %d bytes to %d", p.name, size, n), got, ok, "", false)
			}
		}
	}
}

func TestTrimText(t *testing.T) {
	blank, _ := impl.NewCset(" ")
	an, _ := impl.NewCset("an")
	edges, _ := impl.NewCset("\x00\x7f?@")
	cases := []struct {
		text string
		c    impl.Cset
		want string
	}{
		{"", blank, ""}, {"", emptyCset, ""}, {"", fullCset, ""},
		{" ", blank, ""}, {"   ", blank, ""}, {"a", blank, "a"}, {"a ", blank, "a"}, {" a ", blank, " a"}, {"a b  ", blank, "a b"}, {"a\t ", blank, "a\t"}, {"a \t", blank, "a \t"},
		{"banana", an, "b"}, {"banana", emptyCset, "banana"}, {"banana", fullCset, ""}, {"nana", an, ""}, {"bananas", an, "bananas"},
		{"x?@\x00\x7f", edges, "x"}, {"?@\x00\x7fx", edges, "?@\x00\x7fx"},
		{"a\x80", fullCset, "a\x80"}, {"a\xff", fullCset, "a\xff"}, {"a\x80b ", fullCset, "a\x80"}, {"a\xa0 ", blank, "a\xa0"},
		{"\x80", fullCset, "\x80"}, {"\xe1", an, "\xe1"}, {"ab\u00e9aa", fullCset, "ab\u00e9"},
	}
	for _, c := range cases {
		if got := impl.TrimText(c.text, c.c); got != c.want {
			t.Errorf("TrimText(%q, %q) = %q, want %q", c.text, impl.CsetText(c.c), got, c.want)
		}
	}
	long := strings.Repeat(" ", 100000)
	for _, s := range []string{"", "x", long + "x", "\xff", patternText(300) + "x"} {
		if got := impl.TrimText(s+long, blank); got != s {
			t.Errorf("TrimText of %.20q and many blanks has %d bytes", s, len(got))
		}
	}
}

func TestTrimTextByMembers(t *testing.T) {
	texts := textsOver("a?@\x80", 4)
	for size := range 3 {
		texts = append(texts, patternText(300*size))
	}
	for _, c := range sampleCsets() {
		inside := membersOf(c)
		for _, s := range texts {
			want := ""
			for k := range len(s) {
				if !inside[s[k]] {
					want = s[:k+1]
				}
			}
			if got := impl.TrimText(s, c); got != want {
				t.Fatalf("TrimText(%q, %x) = %q, want %q", s, c, got, want)
			}
		}
	}
}

func TestMapText(t *testing.T) {
	long := strings.Repeat("ab", 50000)
	every := patternText(256)
	cases := []struct {
		text, from, to string
		want           string
		accepted       bool
	}{
		{"banana", "abn", "xyz", "yxzxzx", true},
		{"", "", "", "", true},
		{"", "abc", "xyz", "", true},
		{"banana", "", "", "banana", true},
		{"banana", "xyz", "abc", "banana", true},
		{"banana", "a", "a", "banana", true},
		{"banana", "an", "na", "bnanan", true},
		{"abc", "abc", "bca", "bca", true},
		{"banana", "aa", "xy", "bynyny", true},
		{"banana", "aba", "xyz", "yznznz", true},
		{"banana", "axa", "xya", "banana", true},
		{"abcabc", "aabbaab", "1234567", "67c67c", true},
		{"a\x00\xff", "\xff\x00", "\x00\xff", "a\xff\x00", true},
		{"\u00e9", "\xa9", "\xa8", "\u00e8", true},
		{"\u00e9a", "\u00e9", "ab", "aba", true},
		{long, "ab", "ba", strings.Repeat("ba", 50000), true},
		{every, every, impl.ReverseText(every), impl.ReverseText(every), true},
		{every, every + every, every + impl.ReverseText(every), impl.ReverseText(every), true},
		{"banana", long, impl.ReverseText(long), "abnbnb", true},
		{"banana", "a", "", "", false},
		{"banana", "", "a", "", false},
		{"banana", "abn", "xy", "", false},
		{"banana", "ab", "xyz", "", false},
		{"", "a", "", "", false},
		{"", "", "a", "", false},
		{"banana", long, long[1:], "", false},
		{"banana", "x", "\u00e9", "", false},
		{long, long, long + "a", "", false},
	}
	for _, c := range cases {
		got, ok := impl.MapText(c.text, c.from, c.to)
		checkText(t, fmt.Sprintf("MapText(%.40q, %.40q, %.40q)", c.text, c.from, c.to), got, ok, c.want, c.accepted)
	}
}

func TestMapTextByBytes(t *testing.T) {
	texts := textsOver("ab\xff", 3)
	s := "abc\xff\x00"
	for _, from := range texts {
		for _, to := range texts {
			want := []byte(s)
			if len(from) == len(to) {
				for k := range len(s) {
					if last := strings.LastIndexByte(from, s[k]); last >= 0 {
						want[k] = to[last]
					}
				}
			}
			got, ok := impl.MapText(s, from, to)
			checkText(t, fmt.Sprintf("MapText(%q, %q, %q)", s, from, to), got, ok, string(want), len(from) == len(to))
		}
	}
}

// orderOf compares byte by byte; a text is after its own beginning.
func orderOf(a string, b string) int {
	for k := range max(len(a), len(b)) {
		one, other := -1, -1
		if k < len(a) {
			one = int(a[k])
		}
		if k < len(b) {
			other = int(b[k])
		}
		if one < other {
			return -1
		}
		if one > other {
			return 1
		}
	}
	return 0
}

func TestCompareTexts(t *testing.T) {
	long := strings.Repeat("a", 100000)
	cases := []struct {
		a, b string
		want int
	}{
		{"", "", 0}, {"", "a", -1}, {"", "\x00", -1}, {"a", "a", 0}, {"a", "b", -1}, {"ab", "b", -1}, {"ab", "a", 1}, {"ab", "aa", 1}, {"abc", "ab", 1},
		{"a", "a\x00", -1}, {"B", "a", -1}, {"10", "9", -1}, {"\x7f", "\x80", -1}, {"a", "\xff", -1}, {"\x80", "\xff", -1}, {"\xff", "\x00", 1}, {"z", "\u00e9", -1},
		// In the order of UTF-16 these two would be the other way round.
		{"\uffff", "\U00010000", -1},
		{long, long, 0}, {long, long + "a", -1}, {long + "b", long + "a", 1}, {long + "\xff", long + "a", 1}, {long, "b", -1},
	}
	for _, c := range cases {
		if got := impl.CompareTexts(c.a, c.b); got != c.want {
			t.Errorf("CompareTexts(%.20q, %.20q) = %d, want %d", c.a, c.b, got, c.want)
		}
		if got := impl.CompareTexts(c.b, c.a); got != -c.want {
			t.Errorf("CompareTexts(%.20q, %.20q) = %d, want %d", c.b, c.a, got, -c.want)
		}
	}
	texts := textsOver("\x00a\x7f\x80\xff", 3)
	for _, a := range texts {
		for _, b := range texts {
			if got := impl.CompareTexts(a, b); got != orderOf(a, b) {
				t.Fatalf("CompareTexts(%q, %q) = %d, want %d", a, b, got, orderOf(a, b))
			}
		}
	}
	for a := range 256 {
		for b := range 256 {
			if got := impl.CompareTexts(bytesOf(byte(a)), bytesOf(byte(b))); got != orderOf(bytesOf(byte(a)), bytesOf(byte(b))) {
				t.Fatalf("CompareTexts of the bytes %d and %d is %d", a, b, got)
			}
		}
	}
}

// textResults calls each function so that its result has the same bytes as s, if it can.
func textResults(s string) map[string]string {
	all := map[string]string{}
	all["SectionOf"], _ = impl.SectionOf(s, 1, 0)
	all["ConcatTexts and nothing"], _ = impl.ConcatTexts(s, "")
	all["nothing and ConcatTexts"], _ = impl.ConcatTexts("", s)
	all["ReplicateText"], _ = impl.ReplicateText(s, 1)
	all["ReverseText"] = impl.ReverseText(s)
	all["LeftText"], _ = impl.LeftText(s, len(s), '.')
	all["RightText"], _ = impl.RightText(s, len(s), '.')
	all["CenterText"], _ = impl.CenterText(s, len(s), '.')
	all["TrimText"] = impl.TrimText(s, emptyCset)
	all["MapText"], _ = impl.MapText(s, "", "")
	all["MapText to"], _ = impl.MapText(s, s, s)
	return all
}

// The bytes of the argument are changed after the calls: a result that shares them would change too.
func TestTextsShareNoMemory(t *testing.T) {
	const palindrome = "rotor"
	data := []byte(palindrome)
	s := unsafe.String(&data[0], len(data))
	first := textResults(s)
	second := textResults(s)
	if string(data) != palindrome {
		t.Fatalf("an argument was changed to %q", data)
	}
	clear(data)
	seen := map[*byte]string{}
	for name, text := range first {
		if text != palindrome || second[name] != palindrome {
			t.Errorf("%s shares memory with its argument: %q", name, text)
		}
		for _, result := range []string{text, second[name]} {
			if other, found := seen[unsafe.StringData(result)]; found {
				t.Errorf("%s shares memory with %s", name, other)
			}
			seen[unsafe.StringData(result)] = name
		}
	}
}

func TestTextFunctionsKeepNoState(t *testing.T) {
	for range 3 {
		if m, ok := impl.MapText("banana", "abn", "xyz"); m != "yxzxzx" || !ok {
			t.Errorf("MapText = %q, %v", m, ok)
		}
		if m, ok := impl.MapText("banana", "", ""); m != "banana" || !ok {
			t.Errorf("MapText without a change = %q, %v", m, ok)
		}
		if s, ok := impl.CenterText("ab", 5, '.'); s != ".ab.." || !ok {
			t.Errorf("CenterText = %q, %v", s, ok)
		}
		if s, ok := impl.CenterText("", 3, '-'); s != "---" || !ok {
			t.Errorf("CenterText of nothing = %q, %v", s, ok)
		}
		if s, ok := impl.SectionOf("banana", 9, 1); s != "" || ok {
			t.Errorf("SectionOf outside = %q, %v", s, ok)
		}
	}
}
