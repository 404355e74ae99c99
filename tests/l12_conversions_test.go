package tests

import (
	"math"
	"math/rand/v2"
	"regexp"
	"slices"
	"strconv"
	"strings"
	"testing"
	"unsafe"

	"loop.example/g03106/impl"
)

// integerForm is what denotes an integer as data.
var integerForm = regexp.MustCompile(`\A *([+-]?[0-9]{1,12}) *\z`)

// conversions are what a value converts to, each with whether there is one.
type conversions struct {
	text       string
	hasText    bool
	integer    int
	hasInteger bool
	set        impl.Cset
	hasSet     bool
}

// noConversions are those of a value that is no integer, string or set.
var noConversions = conversions{}

// ascendingText is the text of the elements of a set.
func ascendingText(c impl.Cset) string {
	var text []byte
	for b, in := range membersOf(c) {
		if in {
			text = append(text, byte(b))
		}
	}
	return string(text)
}

// integerIn is the integer that a text denotes.
func integerIn(s string) (int, bool) {
	match := integerForm.FindStringSubmatch(s)
	if match == nil {
		return 0, false
	}
	n, err := strconv.Atoi(match[1])
	return n, err == nil
}

// setIn is the set of the bytes of a text, if none is above 127.
func setIn(s string) (impl.Cset, bool) {
	m := membersIn(s)
	if slices.Contains(m[128:], true) {
		return impl.Cset{}, false
	}
	return csetOf(m), true
}

// textConversions are those of a value that converts to a text.
func textConversions(s string) conversions {
	want := conversions{text: s, hasText: true}
	want.integer, want.hasInteger = integerIn(s)
	want.set, want.hasSet = setIn(s)
	return want
}

// conversionsOf are the conversions by definition.
func conversionsOf(v impl.Value) conversions {
	switch v.Kind {
	case 1:
		want := textConversions(strconv.Itoa(v.Number))
		want.integer, want.hasInteger = v.Number, true
		return want
	case 2:
		return textConversions(v.Text)
	case 3:
		want := noConversions
		if elements := ascendingText(v.Set); len(elements) <= 120 {
			want = textConversions(elements)
		}
		want.set, want.hasSet = v.Set, true
		return want
	}
	return noConversions
}

// checkConversions compares all three functions with what is wanted of them.
func checkConversions(t *testing.T, v impl.Value, want conversions) {
	t.Helper()
	if text, ok := impl.ToText(v); text != want.text || ok != want.hasText {
		t.Fatalf("ToText(%s) = %.130q, %v, want %.130q, %v", valueForm(v), text, ok, want.text, want.hasText)
	}
	if n, ok := impl.ToInteger(v); n != want.integer || ok != want.hasInteger {
		t.Fatalf("ToInteger(%s) = %d, %v, want %d, %v", valueForm(v), n, ok, want.integer, want.hasInteger)
	}
	if c, ok := impl.ToCset(v); c != want.set || ok != want.hasSet {
		t.Fatalf("ToCset(%s) = %x, %v, want %x, %v", valueForm(v), c, ok, want.set, want.hasSet)
	}
}

// withOtherFields are v and values that differ from it in fields that its kind does not use.
func withOtherFields(v impl.Value) []impl.Value {
	use := func(field string) bool { return isKind(v.Kind) && useOf(v.Kind, field) != "" }
	list := []impl.Value{v}
	add := func(change func(*impl.Value)) {
		for _, other := range slices.Clone(list) {
			change(&other)
			list = append(list, other)
		}
	}
	if !use("Number") {
		add(func(other *impl.Value) { other.Number = -77 })
	}
	if !use("Index") {
		add(func(other *impl.Value) { other.Index = 5 })
	}
	if !use("Text") {
		add(func(other *impl.Value) { other.Text = "66" })
	}
	if !use("Set") {
		add(func(other *impl.Value) { other.Set = csetOf(membersIn("8")) })
	}
	return list
}

// checkByDefinition compares with the definition, whatever is in the fields that the kind does not use.
func checkByDefinition(t *testing.T, v impl.Value) {
	t.Helper()
	want := conversionsOf(v)
	for _, other := range withOtherFields(v) {
		checkConversions(t, other, want)
	}
}

func integerValueOf(n int) impl.Value { return impl.Value{Kind: impl.ValueInteger, Number: n} }

func stringValueOf(s string) impl.Value { return impl.Value{Kind: impl.ValueString, Text: s} }

// setOf is the value of the set of some bytes.
func setValueOf(elements string) impl.Value {
	return impl.Value{Kind: impl.ValueCset, Set: csetOf(membersIn(elements))}
}

// firstBytes are the bytes from 0 on.
func firstBytes(count int) string {
	text := make([]byte, count)
	for i := range text {
		text[i] = byte(i)
	}
	return string(text)
}

// checkOfAllFields expects the conversions of v whatever is in the fields that its kind does not use.
func checkOfAllFields(t *testing.T, v impl.Value, want conversions) {
	t.Helper()
	for _, other := range withOtherFields(v) {
		checkConversions(t, other, want)
	}
}

func TestConversionsOfIntegers(t *testing.T) {
	for _, c := range []struct {
		n        int
		text     string
		elements string
	}{
		{0, "0", "0"}, {7, "7", "7"}, {-7, "-7", "-7"}, {10, "10", "01"}, {-100, "-100", "-01"}, {121, "121", "12"}, {987654321, "987654321", "123456789"}, {-1000000, "-1000000", "-01"},
		{maxInteger - 1, "999999999998", "89"}, {maxInteger, "999999999999", "9"}, {-maxInteger, "-999999999999", "-9"}, {maxInteger + 1, "1000000000000", "01"}, {-maxInteger - 1, "-1000000000000", "-01"},
		{math.MaxInt64, "9223372036854775807", "023456789"}, {math.MinInt64, "-9223372036854775808", "-023456789"},
	} {
		checkOfAllFields(t, integerValueOf(c.n), conversions{c.text, true, c.n, true, setValueOf(c.elements).Set, true})
	}
}

// Strings that denote an integer.
func TestConversionsOfNumerals(t *testing.T) {
	many := strings.Repeat(" ", 1000)
	for s, n := range map[string]int{
		"0": 0, "-0": 0, "+0": 0, "00": 0, "7": 7, "+7": 7, "-7": -7, "007": 7, "-007": -7, " 12 ": 12, "  12": 12, "12  ": 12, " -07 ": -7, " +3": 3, "000000000000": 0, "000000000012": 12,
		"123456789012": 123456789012, "999999999999": maxInteger, "-999999999999": -maxInteger, " +999999999999 ": maxInteger, strings.Repeat(" ", maxText-1) + "5": 5, "-5" + many: -5, many + "42" + many: 42,
	} {
		checkOfAllFields(t, stringValueOf(s), conversions{s, true, n, true, setValueOf(s).Set, true})
	}
}

// Strings that denote no integer, and are the text of a set all the same.
func TestConversionsOfOtherTexts(t *testing.T) {
	for _, s := range []string{
		"", " ", "   ", strings.Repeat(" ", maxText), "+", "-", " - ", "+-1", "--1", "- 1", "1 2", "1-", "1234567890123", "0000000000000", "0000000000001", "-1000000000000", "9223372036854775807", "a", "12a", "a12", "1.0", "1e3", "0x10",
		"\t1", "1\n", "\x001", "1\x7f", "banana", "abcABC019", firstBytes(128), firstBytes(120), firstBytes(121), strings.Repeat("9", maxText), strings.Repeat("ab", maxText/2), strings.Repeat("ab", maxText), strings.Repeat("z", 100000),
	} {
		checkOfAllFields(t, stringValueOf(s), conversions{text: s, hasText: true, set: setValueOf(s).Set, hasSet: true})
	}
}

// Strings with bytes above 127 are texts alone, wherever these bytes are.
func TestConversionsOfHighTexts(t *testing.T) {
	for b := 128; b < 256; b++ {
		high := bytesOf(byte(b))
		for _, s := range []string{high, high + "12", "12" + high, "1" + high + "2", high + high, patternText(maxText) + high, high + strings.Repeat("a", maxText-1)} {
			checkOfAllFields(t, stringValueOf(s), conversions{text: s, hasText: true})
		}
	}
	for _, s := range []string{"\u0661", "\u00a012", "caf\u00e9", "\uff11", patternText(maxText), patternText(maxText + 1), patternText(100000)} {
		checkOfAllFields(t, stringValueOf(s), conversions{text: s, hasText: true})
	}
}

// The elements of a set are in ascending order, so that blanks and a sign come before the digits.
func TestConversionsOfSets(t *testing.T) {
	for _, c := range []struct {
		elements string
		text     string
		integer  int
	}{
		{"0", "0", 0}, {"7", "7", 7}, {"21", "12", 12}, {"9876543210", "0123456789", 123456789}, {"123456789", "123456789", 123456789}, {"-1", "-1", -1}, {"2-1", "-12", -12}, {"+3", "+3", 3}, {" 5", " 5", 5}, {"5 -4", " -45", -45}, {"98+ ", " +89", 89}, {"0-", "-0", 0},
		{"0123456789 -", " -0123456789", -123456789}, {"111222", "12", 12},
	} {
		v := setValueOf(c.elements)
		checkOfAllFields(t, v, conversions{c.text, true, c.integer, true, v.Set, true})
	}
	for elements, text := range map[string]string{
		"": "", " ": " ", "-": "-", "+": "+", "- ": " -", "+-1": "+-1", "a": "a", "banana": "abn", "\x00": "\x00", "\x7f\x01": "\x01\x7f", "1a": "1a", "1.0": ".01", "\n1": "\n1", "2,1": ",12", "aA": "Aa",
	} {
		v := setValueOf(elements)
		checkOfAllFields(t, v, conversions{text: text, hasText: true, set: v.Set, hasSet: true})
	}
}

// A set with more than MaxText elements is no text, and with MaxText it is one, whichever elements it lacks.
func TestConversionsOfLargeSets(t *testing.T) {
	for count := 100; count <= 128; count++ {
		for from := range 129 - count {
			text := firstBytes(128)[from : from+count]
			v := setValueOf(text)
			want := conversions{text: text, hasText: true, set: v.Set, hasSet: true}
			if count > 120 {
				want = conversions{set: v.Set, hasSet: true}
			}
			checkOfAllFields(t, v, want)
		}
	}
	for _, size := range []int{119, 120, 121, 127} {
		for gap := range 128 {
			var m members
			for k := range size {
				m[(gap+k)%128] = true
			}
			v := impl.Value{Kind: impl.ValueCset, Set: csetOf(m)}
			if text, ok := impl.ToText(v); ok != (size <= 120) || len(text) != size && ok || text != "" && !ok {
				t.Errorf("ToText of %d elements = %q, %v", size, text, ok)
			}
			checkByDefinition(t, v)
		}
	}
	checkOfAllFields(t, impl.Value{Kind: impl.ValueCset, Set: fullCset}, conversions{set: fullCset, hasSet: true})
	checkOfAllFields(t, impl.Value{Kind: impl.ValueCset, Set: impl.Cset{Low: -1}}, conversions{text: firstBytes(64), hasText: true, set: impl.Cset{Low: -1}, hasSet: true})
}

// Every other kind, and every number that is no kind, converts to nothing, whatever its fields are.
func TestOtherKindsConvertToNothing(t *testing.T) {
	for _, kind := range sampleKinds() {
		if kind == impl.ValueInteger || kind == impl.ValueString || kind == impl.ValueCset {
			continue
		}
		for _, v := range []impl.Value{{}, {Number: 12}, {Number: -1}, {Text: "12"}, {Set: setValueOf("12").Set}, {Number: 7, Index: 1, Text: "8", Set: setValueOf("9").Set}, {Index: 2}, {Number: math.MinInt64, Index: math.MaxInt64, Text: patternText(maxText + 1), Set: fullCset}} {
			v.Kind = kind
			checkConversions(t, v, noConversions)
		}
	}
	for kind := range valueRules {
		for _, v := range []impl.Value{plainestValue(kind), fullestValue(kind)} {
			checkByDefinition(t, v)
		}
	}
}

// The same fields with every kind: each kind looks at its own field.
func TestConversionsUseTheFieldsOfTheKind(t *testing.T) {
	v := impl.Value{Number: 11, Index: 22, Text: "33", Set: setValueOf("45").Set}
	for kind := -3; kind <= 24; kind++ {
		v.Kind = kind
		want := noConversions
		switch kind {
		case impl.ValueInteger:
			want = conversions{"11", true, 11, true, setValueOf("1").Set, true}
		case impl.ValueString:
			want = conversions{"33", true, 33, true, setValueOf("3").Set, true}
		case impl.ValueCset:
			want = conversions{"45", true, 45, true, setValueOf("45").Set, true}
		}
		checkConversions(t, v, want)
	}
}

func TestConversionsByDefinition(t *testing.T) {
	for _, n := range slices.Concat(integersOfAllSizes(), extremeInts(), sampleFields()) {
		checkByDefinition(t, integerValueOf(n))
	}
	for _, c := range slices.Concat(sampleCsets(), sampleWords()) {
		checkByDefinition(t, impl.Value{Kind: impl.ValueCset, Set: c})
	}
	for _, s := range slices.Concat(textsOver(" +-019a", 5), textsOver("1\x7f\x80", 4), sampleFieldTexts()) {
		checkByDefinition(t, stringValueOf(s))
		if c, ok := setIn(s); ok {
			checkByDefinition(t, impl.Value{Kind: impl.ValueCset, Set: c})
		}
	}
	for b := range 256 {
		one := bytesOf(byte(b))
		for _, s := range []string{"", "5", " 5 ", "-5", "+12", "123456789012"} {
			for k := range len(s) + 1 {
				checkByDefinition(t, stringValueOf(s[:k]+one+s[k:]))
			}
		}
	}
	for size := range 20 {
		for _, digits := range []string{"9", "0", "1234567890", "0000000001"} {
			number := strings.Repeat(digits, 20)[:size]
			for _, s := range []string{number, "+" + number, "-" + number, " " + number + "  ", " -" + number + " "} {
				checkByDefinition(t, stringValueOf(s))
			}
		}
	}
}

func TestConversionsOfRandomValues(t *testing.T) {
	random := rand.New(rand.NewPCG(12, 1))
	anyNumber := func() int {
		n := int(random.Uint64() >> random.IntN(64))
		if random.IntN(2) == 0 {
			return -n
		}
		return n
	}
	anyText := func() string {
		alphabet := []string{"0123456789", " +-0123456789", firstBytes(128), patternText(256)}[random.IntN(4)]
		text := make([]byte, random.IntN(16)*(1+random.IntN(10)))
		for i := range text {
			text[i] = alphabet[random.IntN(len(alphabet))]
		}
		return string(text)
	}
	converted := 0
	for range 200000 {
		v := impl.Value{Kind: random.IntN(6) - 1, Number: anyNumber(), Index: anyNumber(), Text: anyText(), Set: impl.Cset{Low: anyNumber(), High: anyNumber()}}
		if random.IntN(4) == 0 {
			v.Set = impl.Cset{Low: -1, High: -1 ^ 1<<random.IntN(64) ^ 1<<random.IntN(64)}
			v.Set.Low ^= random.IntN(1 << 10)
		}
		checkConversions(t, v, conversionsOf(v))
		if conversionsOf(v).hasInteger {
			converted++
		}
	}
	if converted < 10000 || converted > 190000 {
		t.Errorf("%d values convert to integers", converted)
	}
}

// checkThereAndBack converts an integer to its string and back (P12).
func checkThereAndBack(t *testing.T, n int) {
	t.Helper()
	v, made := impl.IntegerValue(n)
	text, ok := impl.ToText(v)
	if !made || !ok || text != strconv.Itoa(n) {
		t.Fatalf("ToText of %d = %q, %v", n, text, ok)
	}
	word, made := impl.StringValue(text)
	back, ok := impl.ToInteger(word)
	if !made || !ok || back != n {
		t.Fatalf("ToInteger of %q = %d, %v", text, back, ok)
	}
	for _, wide := range []string{" " + text, text + "  ", "  " + text + " "} {
		if back, ok := impl.ToInteger(stringValueOf(wide)); !ok || back != n {
			t.Fatalf("ToInteger of %q = %d, %v", wide, back, ok)
		}
	}
	again, ok := impl.ToText(word)
	same, fine := impl.ToInteger(v)
	if again != text || !ok || same != n || !fine {
		t.Fatalf("%d as a string is %q, %v, and as an integer %d, %v", n, again, ok, same, fine)
	}
	fromInteger, ok := impl.ToCset(v)
	fromText, fine := impl.ToCset(word)
	if want, _ := setIn(text); fromInteger != want || !ok || fromText != want || !fine {
		t.Fatalf("the sets of %d and of %q are %x, %v and %x, %v", n, text, fromInteger, ok, fromText, fine)
	}
}

func TestIntegersConvertToStringsAndBack(t *testing.T) {
	for n := -20000; n <= 20000; n++ {
		checkThereAndBack(t, n)
	}
	for n := range 2000 {
		checkThereAndBack(t, maxInteger-n)
		checkThereAndBack(t, n-maxInteger)
	}
	random := rand.New(rand.NewPCG(12, 2))
	for range 50000 {
		checkThereAndBack(t, random.IntN(2*maxInteger+1)-maxInteger)
	}
	for _, n := range integersOfAllSizes() {
		if n >= -maxInteger && n <= maxInteger {
			checkThereAndBack(t, n)
			continue
		}
		// Beyond the integers of the language there is a string, and no way back.
		text, ok := impl.ToText(integerValueOf(n))
		back, found := impl.ToInteger(stringValueOf(text))
		if text != strconv.Itoa(n) || !ok || back != 0 || found {
			t.Errorf("%d converts to %q, %v, and that to %d, %v", n, text, ok, back, found)
		}
	}
}

// A set converts to its text, and the text back to the set, unless the set is too large for a string.
func TestSetsConvertToStringsAndBack(t *testing.T) {
	for _, c := range sampleCsets() {
		v := impl.Value{Kind: impl.ValueCset, Set: c}
		text, ok := impl.ToText(v)
		back, fine := impl.ToCset(stringValueOf(text))
		if !fine || ok != (impl.CsetSize(c) <= 120) || ok && (back != c || text != ascendingText(c)) || !ok && text != "" {
			t.Errorf("%x converts to %q, %v, and back to %x, %v", c, text, ok, back, fine)
		}
		if same, ok := impl.ToCset(v); same != c || !ok {
			t.Errorf("ToCset of the set %x = %x, %v", c, same, ok)
		}
	}
}

// The bytes of the argument are changed after the call: a text that shares them would change too.
func TestConvertedTextsShareNoMemory(t *testing.T) {
	for _, size := range []int{1, 6, maxText, maxText + 1, 5000} {
		data := []byte(patternText(size))
		v := stringValueOf(unsafe.String(&data[0], len(data)))
		first, ok := impl.ToText(v)
		second, again := impl.ToText(v)
		_, isInteger := impl.ToInteger(v)
		_, isSet := impl.ToCset(v)
		if !ok || !again || isInteger || isSet != (size < 5) || string(data) != patternText(size) {
			t.Fatalf("the text of %d bytes: %v, %v, %v, %v, %.130q", size, ok, again, isInteger, isSet, data)
		}
		clear(data)
		if first != patternText(size) || second != first {
			t.Errorf("the text of %d bytes shares memory with its argument", size)
		}
		if unsafe.StringData(first) == unsafe.StringData(second) {
			t.Errorf("two texts of %d bytes share memory", size)
		}
	}
	for _, v := range []impl.Value{integerValueOf(123456), setValueOf("banana")} {
		first, _ := impl.ToText(v)
		second, _ := impl.ToText(v)
		if unsafe.StringData(first) == unsafe.StringData(second) {
			t.Errorf("two texts of %s share memory", valueForm(v))
		}
	}
}

// The conversions read the argument and leave its bytes as they are.
func TestConversionsLeaveTheirArguments(t *testing.T) {
	for _, s := range []string{" -07 ", "12", "banana", "\xff1", strings.Repeat(" ", maxText-1) + "5", patternText(maxText)} {
		data := []byte(s)
		for _, kind := range sampleKinds() {
			v := impl.Value{Kind: kind, Number: 3, Index: 4, Text: unsafe.String(&data[0], len(data)), Set: setValueOf("56").Set}
			before := v
			impl.ToText(v)
			impl.ToInteger(v)
			impl.ToCset(v)
			if string(data) != s || v != before {
				t.Fatalf("a conversion changed %q to %q, with the kind %d", s, data, kind)
			}
		}
	}
}

func TestConversionFunctionsKeepNoState(t *testing.T) {
	for range 3 {
		checkByDefinition(t, integerValueOf(42))
		checkByDefinition(t, stringValueOf("x"))
		checkByDefinition(t, stringValueOf(" -07 "))
		checkByDefinition(t, setValueOf("21"))
		checkConversions(t, impl.Value{Number: 42, Text: "42"}, noConversions)
		checkConversions(t, stringValueOf(""), conversions{hasText: true, hasSet: true})
		checkConversions(t, setValueOf(""), conversions{hasText: true, hasSet: true})
		checkConversions(t, impl.Value{Kind: impl.ValueCset, Set: fullCset}, conversions{set: fullCset, hasSet: true})
	}
}
