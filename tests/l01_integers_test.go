package tests

import (
	"math"
	"slices"
	"strconv"
	"strings"
	"testing"
	"unsafe"

	"loop.example/g03106/impl"
)

const maxJoined = 1048576

// bytesOf is a text of one byte: string(b) would be the UTF-8 form of the rune b.
func bytesOf(b byte) string {
	return string([]byte{b})
}

// textsOver returns all texts of at most length bytes of an alphabet.
func textsOver(alphabet string, length int) []string {
	all := []string{""}
	last := all
	for range length {
		var next []string
		for _, s := range last {
			for i := range len(alphabet) {
				next = append(next, s+alphabet[i:i+1])
			}
		}
		all = append(all, next...)
		last = next
	}
	return all
}

// integersOfAllSizes returns the neighbours of all powers of 2 and of 10, with both signs.
func integersOfAllSizes() []int {
	var list []int
	add := func(n int) {
		list = append(list, n-1, n, n+1, -n-1, -n, -n+1)
	}
	for k := range 64 {
		add(1 << k)
	}
	power := 1
	for range 19 {
		add(power)
		power *= 10
	}
	return list
}

func TestFormatInt(t *testing.T) {
	cases := map[int]string{
		0:                 "0",
		5:                 "5",
		-5:                "-5",
		9:                 "9",
		10:                "10",
		-10:               "-10",
		100:               "100",
		-1000000:          "-1000000",
		1020304050607:     "1020304050607",
		999999999999:      "999999999999",
		-999999999999:     "-999999999999",
		math.MaxInt64:     "9223372036854775807",
		math.MinInt64:     "-9223372036854775808",
		math.MinInt64 + 1: "-9223372036854775807",
	}
	for n, want := range cases {
		if got := impl.FormatInt(n); got != want {
			t.Errorf("FormatInt(%d) = %q, want %q", n, got, want)
		}
	}
	for _, n := range integersOfAllSizes() {
		if got := impl.FormatInt(n); got != strconv.Itoa(n) {
			t.Errorf("FormatInt(%d) = %q", n, got)
		}
	}
}

func TestParseNumberReadsEveryNumber(t *testing.T) {
	for n := range 1000000 {
		if got, ok := impl.ParseNumber(impl.FormatInt(n)); got != n || !ok {
			t.Fatalf("ParseNumber(FormatInt(%d)) = %d, %v", n, got, ok)
		}
	}
}

func TestParseIntReadsWhatFormatIntWrites(t *testing.T) {
	list := integersOfAllSizes()
	for n := -2000; n <= 2000; n++ {
		list = append(list, n)
	}
	for n := -999999999999; n <= 999999999999; n += 99999937 {
		list = append(list, n)
	}
	for _, n := range list {
		inside := -999999999999 <= n && n <= 999999999999
		want := 0
		if inside {
			want = n
		}
		if got, ok := impl.ParseInt(impl.FormatInt(n)); got != want || ok != inside {
			t.Errorf("ParseInt(FormatInt(%d)) = %d, %v", n, got, ok)
		}
	}
}

func TestParseBounds(t *testing.T) {
	cases := []struct {
		text     string
		number   bool
		integer  bool
		expected int
	}{
		{"0", true, true, 0},
		{"999999", true, true, 999999},
		{"1000000", false, true, 1000000},
		{"-1", false, true, -1},
		{"-999999", false, true, -999999},
		{"999999999999", false, true, 999999999999},
		{"-999999999999", false, true, -999999999999},
		{"1000000000000", false, false, 0},
		{"-1000000000000", false, false, 0},
		{"9223372036854775807", false, false, 0},
		{"-9223372036854775808", false, false, 0},
		{"18446744073709551616", false, false, 0},
		{"18446744073709551621", false, false, 0},
	}
	for _, c := range cases {
		checkParses(t, "ParseNumber", impl.ParseNumber, c.text, c.number, c.expected)
		checkParses(t, "ParseInt", impl.ParseInt, c.text, c.integer, c.expected)
	}
}

func checkParses(t *testing.T, name string, parse func(string) (int, bool), text string, accepted bool, expected int) {
	t.Helper()
	if !accepted {
		expected = 0
	}
	if got, ok := parse(text); got != expected || ok != accepted {
		t.Errorf("%s(%q) = %d, %v, want %d, %v", name, text, got, ok, expected, accepted)
	}
}

func TestParseRejectsOtherForms(t *testing.T) {
	list := []string{
		"", "007", "00", "01", "-0", "-00", "-007", "-01", "-", "--1", "- 1", "1-", "+", "+0", "+1", "-+1", "+-1",
		" ", " 1", "1 ", "1 2", "\t1", "1\n", "\n", "0x10", "1e3", "1.0", "1,000", "1_000", "a", "1a", "a1",
		"12/", "12:", "/", ":", "\x00", "1\x00", "\x001", "\xff", "1\xb2", "\u0661", "\uff11", "\u2212" + "1",
		"000000000001", "-00000000001", strings.Repeat("0", 100000), strings.Repeat("9", 100000), "-" + strings.Repeat("9", 100000),
	}
	for _, s := range list {
		checkParses(t, "ParseNumber", impl.ParseNumber, s, false, 0)
		checkParses(t, "ParseInt", impl.ParseInt, s, false, 0)
	}
}

// A short text is accepted exactly if it is the form of some integer.
func TestParseAcceptsExactlyTheForms(t *testing.T) {
	forms := map[string]int{}
	for n := -99999; n <= 99999; n++ {
		forms[strconv.Itoa(n)] = n
	}
	for _, s := range textsOver("019-+ /:", 5) {
		n, found := forms[s]
		checkParses(t, "ParseInt", impl.ParseInt, s, found, n)
		checkParses(t, "ParseNumber", impl.ParseNumber, s, found && n >= 0, n)
	}
}

func TestSplitByte(t *testing.T) {
	cases := []struct {
		text string
		by   byte
		want []string
	}{
		{"", ',', []string{""}},
		{"", 0, []string{""}},
		{",", ',', []string{"", ""}},
		{",,", ',', []string{"", "", ""}},
		{"a", ',', []string{"a"}},
		{"a,b", ',', []string{"a", "b"}},
		{"a,,b", ',', []string{"a", "", "b"}},
		{",a,b,", ',', []string{"", "a", "b", ""}},
		{"a,b;c", ';', []string{"a,b", "c"}},
		{"one\ntwo\n", '\n', []string{"one", "two", ""}},
		{"a\x00b", 0, []string{"a", "b"}},
		{"a\xffb", 0xff, []string{"a", "b"}},
		{"\u00e9", 0xc3, []string{"", "\xa9"}},
		{"\u00e9", 0xe9, []string{"\u00e9"}},
	}
	for _, c := range cases {
		if got := impl.SplitByte(c.text, c.by); !slices.Equal(got, c.want) {
			t.Errorf("SplitByte(%q, %q) = %q, want %q", c.text, c.by, got, c.want)
		}
	}
}

func TestJoin(t *testing.T) {
	cases := []struct {
		list []string
		by   string
		want string
	}{
		{nil, ",", ""},
		{[]string{}, ",", ""},
		{[]string{""}, ",", ""},
		{[]string{"a"}, ",", "a"},
		{[]string{"", ""}, ",", ","},
		{[]string{"a", "b"}, ",", "a,b"},
		{[]string{"a", "", "b"}, "", "ab"},
		{[]string{"a", "", "b"}, ", ", "a, , b"},
		{[]string{"a,b", "c"}, ",", "a,b,c"},
		{[]string{"\xff", "\x00"}, "\xfe", "\xff\xfe\x00"},
		{make([]string, 1000), "", ""},
	}
	for _, c := range cases {
		if got := impl.Join(c.list, c.by); got != c.want {
			t.Errorf("Join(%q, %q) = %q, want %q", c.list, c.by, got, c.want)
		}
	}
}

func TestJoinLimit(t *testing.T) {
	full := strings.Repeat("x", maxJoined)
	half := strings.Repeat("y", maxJoined/2)
	cases := []struct {
		name string
		list []string
		by   string
		fits bool
	}{
		{"one element", []string{full}, "", true},
		{"one element and one byte", []string{full + "x"}, "", false},
		{"no separator beside one element", []string{full}, "long", true},
		{"a separator of full length without use", []string{"a"}, full, true},
		{"empty elements beside a full one", []string{"", full, ""}, "", true},
		{"two halves", []string{half, half}, "", true},
		{"two halves and a separator", []string{half, half}, ",", false},
		{"a separator up to the limit", []string{half, half[1:]}, ",", true},
		{"a separator of full length", []string{"", ""}, full, true},
		{"a separator of full length and one byte", []string{"", "a"}, full, false},
		{"two separators of half length", []string{"", "", ""}, half, true},
		{"two separators of half length and one byte", []string{"", "", "a"}, half, false},
		{"only separators", make([]string, maxJoined+1), ",", true},
		{"one separator more", make([]string, maxJoined+2), ",", false},
		{"a small part after a text that is too long", []string{full, full, "a"}, "", false},
	}
	for _, c := range cases {
		want := ""
		if c.fits {
			want = strings.Join(c.list, c.by)
		}
		if got := impl.Join(c.list, c.by); got != want {
			t.Errorf("%s: %d bytes, want %d", c.name, len(got), len(want))
		}
	}
}

// splitAndJoin checks the number of parts, and that joining them gives s again.
func splitAndJoin(t *testing.T, s string, by byte) {
	t.Helper()
	list := impl.SplitByte(s, by)
	if want := strings.Count(s, bytesOf(by)) + 1; len(list) != want {
		t.Fatalf("SplitByte(%.40q, %q) has %d parts, want %d", s, by, len(list), want)
	}
	for _, part := range list {
		if strings.IndexByte(part, by) >= 0 {
			t.Fatalf("SplitByte(%.40q, %q) has the part %.40q", s, by, part)
		}
	}
	want := s
	if len(s) > maxJoined {
		want = ""
	}
	if got := impl.Join(list, bytesOf(by)); got != want {
		t.Fatalf("Join(SplitByte(%.40q, %q)) = %.40q", s, by, got)
	}
}

func TestJoinInvertsSplit(t *testing.T) {
	alphabet := "a,\x00\xc3\xa9\xff"
	for _, s := range textsOver(alphabet, 5) {
		for i := range len(alphabet) {
			splitAndJoin(t, s, alphabet[i])
		}
	}
	every := make([]byte, 256)
	for b := range every {
		every[b] = byte(b)
	}
	for _, b := range every {
		splitAndJoin(t, string(every)+string(every), b)
	}
	for _, size := range []int{maxJoined - 1, maxJoined, maxJoined + 1} {
		splitAndJoin(t, strings.Repeat(",", size), ',')
		splitAndJoin(t, strings.Repeat("x", size), ',')
		splitAndJoin(t, strings.Repeat("ab,", size/3+1)[:size], ',')
	}
}

func TestSplitInvertsJoin(t *testing.T) {
	parts := textsOver("ab", 2)
	for _, a := range parts {
		for _, b := range parts {
			for _, c := range parts {
				list := []string{a, b, c}
				if got := impl.SplitByte(impl.Join(list, ","), ','); !slices.Equal(got, list) {
					t.Errorf("SplitByte(Join(%q)) = %q", list, got)
				}
			}
		}
	}
}

func TestJoinLeavesItsList(t *testing.T) {
	list := []string{"a", "b", "c", "unused", "unused"}
	before := slices.Clone(list)
	impl.Join(list[:3], ",")
	if !slices.Equal(list, before) {
		t.Errorf("Join changed its list to %q", list)
	}
}

// The bytes of a string argument are changed after the call: a result that shares them would change too.
func TestResultsShareNoMemory(t *testing.T) {
	data := []byte("one,two")
	text := unsafe.String(&data[0], len(data))
	first := impl.SplitByte(text, ',')
	joined := impl.Join([]string{text}, ",")
	clear(data)
	if !slices.Equal(first, []string{"one", "two"}) {
		t.Errorf("SplitByte shares memory with its argument: %q", first)
	}
	if joined != "one,two" {
		t.Errorf("Join shares memory with its argument: %q", joined)
	}
	second := impl.SplitByte("one,two", ',')
	first[0] = "changed"
	if third := impl.SplitByte("one,two", ','); second[0] != "one" || third[0] != "one" {
		t.Errorf("the results of SplitByte share memory: %q, %q", second, third)
	}
}

func TestIntegerFunctionsKeepNoState(t *testing.T) {
	for range 3 {
		if impl.FormatInt(math.MinInt64) != "-9223372036854775808" || impl.FormatInt(7) != "7" {
			t.Error("FormatInt depends on earlier calls")
		}
		checkParses(t, "ParseInt", impl.ParseInt, "-12", true, -12)
		checkParses(t, "ParseInt", impl.ParseInt, "x", false, 0)
		if impl.Join(impl.SplitByte("a,b", ','), ";") != "a;b" {
			t.Error("SplitByte or Join depends on earlier calls")
		}
	}
}
