package tests

import (
	"math"
	"strings"
	"testing"
	"unsafe"

	"loop.example/g03106/impl"
)

var (
	emptyCset = impl.Cset{}
	fullCset  = impl.Cset{Low: -1, High: -1}
)

// members says of every byte whether a set contains it.
type members [256]bool

// csetOf makes the words of a set from powers of 2, without shifts of signed words.
func csetOf(m members) impl.Cset {
	var low, high uint64
	power := uint64(1)
	for k := range 64 {
		if m[k] {
			low += power
		}
		if m[64+k] {
			high += power
		}
		power *= 2
	}
	return impl.Cset{Low: int(low), High: int(high)}
}

// membersOf reads the words of a set bit by bit.
func membersOf(c impl.Cset) members {
	var m members
	low, high := uint64(c.Low), uint64(c.High)
	for k := range 64 {
		m[k] = low%2 == 1
		m[64+k] = high%2 == 1
		low /= 2
		high /= 2
	}
	return m
}

// membersIn returns the bytes of a text.
func membersIn(s string) members {
	var m members
	for i := range len(s) {
		m[s[i]] = true
	}
	return m
}

// combined applies a rule to every byte from 0 to 127.
func combined(a, b members, rule func(inA, inB bool) bool) impl.Cset {
	var m members
	for k := range 128 {
		m[k] = rule(a[k], b[k])
	}
	return csetOf(m)
}

// sampleCsets returns the empty set, the full one, one for each single byte and for each single gap, and many mixed ones.
func sampleCsets() []impl.Cset {
	words := []int{0, 1, 2, -1, -2, math.MaxInt64, math.MinInt64, math.MinInt64 + 1, 0x5555555555555555, 0xff00ff00, 1 << 62, 1 << 32, 1 << 31}
	var list []impl.Cset
	for _, low := range words {
		for _, high := range words {
			list = append(list, impl.Cset{Low: low, High: high})
		}
	}
	for k := range 128 {
		var one, gap members
		for j := range 128 {
			one[j] = j == k
			gap[j] = j != k
		}
		list = append(list, csetOf(one), csetOf(gap))
	}
	mixed := uint64(1)
	for range 50 {
		mixed = mixed*6364136223846793005 + 1442695040888963407
		low := mixed
		mixed = mixed*6364136223846793005 + 1442695040888963407
		list = append(list, impl.Cset{Low: int(low), High: int(mixed)})
	}
	return list
}

func TestCsetWords(t *testing.T) {
	cases := []struct {
		text string
		want impl.Cset
	}{
		{"", emptyCset},
		{"\x00", impl.Cset{Low: 1}},
		{"\x01", impl.Cset{Low: 2}},
		{"?", impl.Cset{Low: math.MinInt64}},
		{"@", impl.Cset{High: 1}},
		{"A", impl.Cset{High: 2}},
		{"~", impl.Cset{High: 1 << 62}},
		{"\x7f", impl.Cset{High: math.MinInt64}},
		{"?@", impl.Cset{Low: math.MinInt64, High: 1}},
		{"\x7f?", impl.Cset{Low: math.MinInt64, High: math.MinInt64}},
		{"\x7f@?\x00", impl.Cset{Low: math.MinInt64 + 1, High: math.MinInt64 + 1}},
		{"0123456789", impl.Cset{Low: 0x3ff << 48}},
		{"cab", impl.Cset{High: 0xe << 32}},
		{"banana", impl.Cset{High: 1<<33 | 1<<34 | 1<<46}},
		{"aaaa", impl.Cset{High: 1 << 33}},
	}
	for _, c := range cases {
		if got, ok := impl.NewCset(c.text); got != c.want || !ok {
			t.Errorf("NewCset(%q) = %x, %v, want %x", c.text, got, ok, c.want)
		}
	}
}

func TestHasByte(t *testing.T) {
	for _, c := range sampleCsets() {
		m := membersOf(c)
		for b := range 256 {
			if got := impl.HasByte(c, byte(b)); got != m[b] {
				t.Fatalf("HasByte(%x, %d) = %v", c, b, got)
			}
		}
	}
	for b := 128; b < 256; b++ {
		if impl.HasByte(fullCset, byte(b)) {
			t.Errorf("the full set contains the byte %d", b)
		}
	}
}

func checkNewCset(t *testing.T, s string) {
	t.Helper()
	want, accepted := csetOf(membersIn(s)), true
	for i := range len(s) {
		if s[i] > 127 {
			want, accepted = emptyCset, false
		}
	}
	if got, ok := impl.NewCset(s); got != want || ok != accepted {
		t.Fatalf("NewCset(%.40q) = %x, %v, want %x, %v", s, got, ok, want, accepted)
	}
}

func TestNewCset(t *testing.T) {
	for a := range 256 {
		checkNewCset(t, bytesOf(byte(a)))
		for b := range 256 {
			checkNewCset(t, string([]byte{byte(a), byte(b)}))
		}
	}
	for _, s := range textsOver("a\x00?@\x7f\x80\xff", 5) {
		checkNewCset(t, s)
	}
	checkNewCset(t, impl.CsetText(fullCset))
	checkNewCset(t, strings.Repeat("the quick brown fox ", 10000))
}

func TestNewCsetRejects(t *testing.T) {
	long := strings.Repeat("abc", 1000)
	list := []string{
		"\x80", "\xff", "\xc0", "\xbf", "a\x80", "\x80a", "a\x80b", "?\x80@", "\x7f\x80", long + "\x80", "\x80" + long, long + "\xff" + long,
		// The low byte of the last two runes is an "A" and a line feed.
		"\u00e9", "\u00ff", "\ufffd", "\U0001f600", "\u0141", "\u010a",
	}
	for _, s := range list {
		if got, ok := impl.NewCset(s); got != emptyCset || ok {
			t.Errorf("NewCset(%.40q) = %x, %v, want no set", s, got, ok)
		}
	}
}

func TestRangeCset(t *testing.T) {
	for from := range 256 {
		for to := range 256 {
			var m members
			for b := from; b <= to; b++ {
				m[b] = true
			}
			want, accepted := csetOf(m), true
			if from > to || to > 127 {
				want, accepted = emptyCset, false
			}
			if got, ok := impl.RangeCset(byte(from), byte(to)); got != want || ok != accepted {
				t.Fatalf("RangeCset(%d, %d) = %x, %v, want %x, %v", from, to, got, ok, want, accepted)
			}
		}
	}
}

func TestRangeCsetEdges(t *testing.T) {
	cases := []struct {
		from, to byte
		want     impl.Cset
		accepted bool
	}{
		{0, 127, fullCset, true},
		{0, 63, impl.Cset{Low: -1}, true},
		{64, 127, impl.Cset{High: -1}, true},
		{63, 64, impl.Cset{Low: math.MinInt64, High: 1}, true},
		{0, 0, impl.Cset{Low: 1}, true},
		{63, 63, impl.Cset{Low: math.MinInt64}, true},
		{64, 64, impl.Cset{High: 1}, true},
		{127, 127, impl.Cset{High: math.MinInt64}, true},
		{'a', 'c', impl.Cset{High: 0xe << 32}, true},
		{'c', 'a', emptyCset, false},
		{1, 0, emptyCset, false},
		{64, 63, emptyCset, false},
		{127, 0, emptyCset, false},
		{0, 128, emptyCset, false},
		{127, 128, emptyCset, false},
		{128, 128, emptyCset, false},
		{128, 127, emptyCset, false},
		{0, 255, emptyCset, false},
		{255, 255, emptyCset, false},
		{255, 0, emptyCset, false},
	}
	for _, c := range cases {
		if got, ok := impl.RangeCset(c.from, c.to); got != c.want || ok != c.accepted {
			t.Errorf("RangeCset(%d, %d) = %x, %v, want %x, %v", c.from, c.to, got, ok, c.want, c.accepted)
		}
	}
}

func TestCsetTextAndSize(t *testing.T) {
	for _, c := range sampleCsets() {
		var want []byte
		for b, inside := range membersOf(c) {
			if inside {
				want = append(want, byte(b))
			}
		}
		text := impl.CsetText(c)
		if text != string(want) {
			t.Errorf("CsetText(%x) = %q, want %q", c, text, want)
		}
		if got := impl.CsetSize(c); got != len(want) {
			t.Errorf("CsetSize(%x) = %d, want %d", c, got, len(want))
		}
		if got, ok := impl.NewCset(text); got != c || !ok {
			t.Errorf("NewCset(CsetText(%x)) = %x, %v", c, got, ok)
		}
	}
	if impl.CsetText(emptyCset) != "" || impl.CsetSize(emptyCset) != 0 || impl.CsetSize(fullCset) != 128 {
		t.Error(impl.CsetText(emptyCset), impl.CsetSize(emptyCset), impl.CsetSize(fullCset))
	}
}

func TestCsetOperationsOnSmallSets(t *testing.T) {
	abc, _ := impl.NewCset("abc")
	bcd, _ := impl.NewCset("bcd")
	digits, _ := impl.NewCset("0123456789")
	cases := []struct {
		name string
		got  impl.Cset
		want string
	}{
		{"union", impl.UnionCsets(abc, bcd), "abcd"},
		{"union of both words", impl.UnionCsets(abc, digits), "0123456789abc"},
		{"union with the empty set", impl.UnionCsets(emptyCset, abc), "abc"},
		{"intersection", impl.IntersectCsets(abc, bcd), "bc"},
		{"intersection of both words", impl.IntersectCsets(abc, digits), ""},
		{"intersection with the full set", impl.IntersectCsets(abc, fullCset), "abc"},
		{"difference", impl.SubtractCsets(abc, bcd), "a"},
		{"difference the other way round", impl.SubtractCsets(bcd, abc), "d"},
		{"difference from itself", impl.SubtractCsets(abc, abc), ""},
		{"difference with the empty set", impl.SubtractCsets(abc, emptyCset), "abc"},
		{"difference from the empty set", impl.SubtractCsets(emptyCset, abc), ""},
		{"complement of the full set", impl.ComplementCset(fullCset), ""},
	}
	for _, c := range cases {
		if text := impl.CsetText(c.got); text != c.want {
			t.Errorf("%s: %q, want %q", c.name, text, c.want)
		}
	}
	if got := impl.ComplementCset(emptyCset); got != fullCset {
		t.Errorf("the complement of the empty set is %x", got)
	}
}

func TestCsetOperationsByMembers(t *testing.T) {
	list := sampleCsets()
	for _, a := range list {
		inA := membersOf(a)
		if got, want := impl.ComplementCset(a), combined(inA, inA, func(x, _ bool) bool { return !x }); got != want {
			t.Fatalf("ComplementCset(%x) = %x, want %x", a, got, want)
		}
		for _, b := range list {
			inB := membersOf(b)
			if got, want := impl.UnionCsets(a, b), combined(inA, inB, func(x, y bool) bool { return x || y }); got != want {
				t.Fatalf("UnionCsets(%x, %x) = %x, want %x", a, b, got, want)
			}
			if got, want := impl.IntersectCsets(a, b), combined(inA, inB, func(x, y bool) bool { return x && y }); got != want {
				t.Fatalf("IntersectCsets(%x, %x) = %x, want %x", a, b, got, want)
			}
			if got, want := impl.SubtractCsets(a, b), combined(inA, inB, func(x, y bool) bool { return x && !y }); got != want {
				t.Fatalf("SubtractCsets(%x, %x) = %x, want %x", a, b, got, want)
			}
		}
	}
}

func TestComplementsExchangeUnionsAndIntersections(t *testing.T) {
	list := sampleCsets()
	for _, a := range list {
		notA := impl.ComplementCset(a)
		if impl.ComplementCset(notA) != a || impl.UnionCsets(a, notA) != fullCset || impl.IntersectCsets(a, notA) != emptyCset {
			t.Fatalf("%x is not divided from its complement %x", a, notA)
		}
		if impl.CsetSize(a)+impl.CsetSize(notA) != 128 {
			t.Fatalf("%x and %x do not have 128 elements", a, notA)
		}
		for _, b := range list {
			notB := impl.ComplementCset(b)
			if impl.ComplementCset(impl.UnionCsets(a, b)) != impl.IntersectCsets(notA, notB) {
				t.Fatalf("the complement of the union of %x and %x", a, b)
			}
			if impl.ComplementCset(impl.IntersectCsets(a, b)) != impl.UnionCsets(notA, notB) {
				t.Fatalf("the complement of the intersection of %x and %x", a, b)
			}
			if impl.SubtractCsets(a, b) != impl.IntersectCsets(a, notB) {
				t.Fatalf("the difference of %x and %x", a, b)
			}
		}
	}
}

// The bytes of the text are changed after the call, and the set and the text that were made before stay as they are.
func TestCsetsShareNoMemory(t *testing.T) {
	data := []byte("xyz")
	c, ok := impl.NewCset(unsafe.String(&data[0], len(data)))
	text := impl.CsetText(c)
	clear(data)
	if !ok || impl.CsetText(c) != "xyz" || text != "xyz" {
		t.Errorf("the set of \"xyz\" has become %q, and its text %q", impl.CsetText(c), text)
	}
	if again := impl.CsetText(c); unsafe.StringData(again) == unsafe.StringData(text) {
		t.Error("two results of CsetText share memory")
	}
}

func TestCsetFunctionsKeepNoState(t *testing.T) {
	for range 3 {
		checkNewCset(t, "abc")
		checkNewCset(t, "ab\x80")
		checkNewCset(t, "")
		if c, ok := impl.RangeCset('x', 'z'); impl.CsetText(c) != "xyz" || !ok {
			t.Errorf("RangeCset('x', 'z') = %x, %v", c, ok)
		}
		if c, ok := impl.RangeCset('z', 'x'); c != emptyCset || ok {
			t.Errorf("RangeCset('z', 'x') = %x, %v", c, ok)
		}
		if impl.ComplementCset(emptyCset) != fullCset || impl.HasByte(emptyCset, 'x') || impl.CsetSize(emptyCset) != 0 {
			t.Error("the functions of sets depend on earlier calls")
		}
	}
}
