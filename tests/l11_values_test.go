package tests

import (
	"fmt"
	"math"
	"math/rand/v2"
	"slices"
	"strconv"
	"strings"
	"testing"
	"unsafe"

	"loop.example/g03106/impl"
)

// valueRule is what the chapter says of one kind of values: the name of the type, and the fields that are used, each with what it may be.
type valueRule struct {
	typeName string
	uses     string
}

// valueRules are the kinds in the order of their numbers, from 0.
var valueRules = []valueRule{
	{"null", ""}, {"integer", "Number:integer"}, {"string", "Text:short"}, {"cset", "Set:any"},
	{"list", "Number:natural"}, {"table", "Number:natural"}, {"set", "Number:natural"}, {"record", "Number:natural"},
	{"procedure", "Number:natural"}, {"procedure", "Number:natural"}, {"procedure", "Number:natural"}, {"co-expression", "Number:natural"}, {"pattern", "Number:natural"},
	{"variable", "Number:natural Index:natural"}, {"variable", "Index:natural"}, {"variable", "Number:natural Index:natural"}, {"variable", "Number:natural Index:natural"}, {"variable", "Number:natural"}, {"variable", "Index:keyword"},
	{"frame", "Number:natural"}, {"scan", "Number:natural"},
}

// faultList are the codes of the chapter with their messages.
const faultList = `101 integer expected or out of range; 103 string expected; 104 cset expected; 106 procedure or integer expected; 107 record expected; 108 list expected; 111 variable expected; 114 structure expected; 118 co-expression expected; 119 co-expression is active; 122 set or table expected; 124 table expected; 127 pattern expected; 201 division by zero; 203 integer overflow; 205 value out of range; 207 record has no such field; 301 too many active procedures; 302 result too large`

// valueForm shows a value.
func valueForm(v impl.Value) string {
	return fmt.Sprintf("{Kind %d, Number %d, Index %d, Text %.130q, Set %x}", v.Kind, v.Number, v.Index, v.Text, v.Set)
}

// useOf is what a kind may have in a field, or "" if it does not use the field.
func useOf(kind int, field string) string {
	for _, use := range wordsOf(valueRules[kind].uses) {
		if name, allowed, _ := strings.Cut(use, ":"); name == field {
			return allowed
		}
	}
	return ""
}

// numberIsRight reports whether a number is one that a field with a use may have.
func numberIsRight(use string, n int) bool {
	switch use {
	case "integer":
		return n >= -maxInteger && n <= maxInteger
	case "natural":
		return n >= 0
	case "keyword":
		return n == 1 || n == 2
	}
	return n == 0
}

// isKind reports whether a number is that of a kind.
func isKind(kind int) bool {
	return kind >= 0 && kind < len(valueRules)
}

// followValueRules is IsWellFormed by definition.
func followValueRules(v impl.Value) bool {
	if !isKind(v.Kind) {
		return false
	}
	rightText := v.Text == "" || useOf(v.Kind, "Text") == "short" && len(v.Text) <= maxText
	rightSet := v.Set == impl.Cset{} || useOf(v.Kind, "Set") == "any"
	return rightText && rightSet && numberIsRight(useOf(v.Kind, "Number"), v.Number) && numberIsRight(useOf(v.Kind, "Index"), v.Index)
}

// withoutUnused is v with the fields zero that its kind does not use.
func withoutUnused(v impl.Value) impl.Value {
	kept := impl.Value{Kind: v.Kind}
	if useOf(v.Kind, "Number") != "" {
		kept.Number = v.Number
	}
	if useOf(v.Kind, "Index") != "" {
		kept.Index = v.Index
	}
	if useOf(v.Kind, "Text") != "" {
		kept.Text = v.Text
	}
	if useOf(v.Kind, "Set") != "" {
		kept.Set = v.Set
	}
	return kept
}

// checkValue compares the functions of one value with their definitions, and expects of a well-formed one that it uses only the fields of its kind (P11).
func checkValue(t *testing.T, v impl.Value) {
	t.Helper()
	want := followValueRules(v)
	if got := impl.IsWellFormed(v); got != want {
		t.Fatalf("IsWellFormed(%s) = %v", valueForm(v), got)
	}
	if want && withoutUnused(v) != v {
		t.Fatalf("%s is well-formed and uses other fields than its kind", valueForm(v))
	}
	typeName := ""
	if isKind(v.Kind) {
		typeName = valueRules[v.Kind].typeName
	}
	if got := impl.TypeName(v); got != typeName {
		t.Fatalf("TypeName(%s) = %q, want %q", valueForm(v), got, typeName)
	}
	if got := impl.IsReference(v); got != (typeName == "variable") {
		t.Fatalf("IsReference(%s) = %v", valueForm(v), got)
	}
}

// checkWellFormed expects whether a value is well-formed, by its own word and by definition.
func checkWellFormed(t *testing.T, v impl.Value, want bool) {
	t.Helper()
	if got := impl.IsWellFormed(v); got != want {
		t.Errorf("IsWellFormed(%s) = %v", valueForm(v), got)
	}
	checkValue(t, v)
}

// sampleKinds are all kinds, numbers around them, and numbers whose last bits are those of a kind.
func sampleKinds() []int {
	kinds := append(extremeInts(), 64, 100, 128, 255, -100, -255, -256)
	for kind := -25; kind <= 45; kind++ {
		kinds = append(kinds, kind)
	}
	for kind := range valueRules {
		kinds = append(kinds, kind+1<<8, kind+1<<16, kind+1<<32, kind+math.MinInt64, kind-1<<8, kind-1<<32)
	}
	return kinds
}

// sampleFields are the numbers that a field of a value is tried with.
func sampleFields() []int {
	return append(extremeInts(), 0, 1, 2, 3, 4, 5, 23, 24, 40, 54, 55, 119, 120, 121, 1000000, -1, -2, -3, -20, -1000000, maxInteger, maxInteger-1, maxInteger+1, -maxInteger, -maxInteger+1, -maxInteger-1, 2*maxInteger, -2*maxInteger)
}

// sampleWords are sets whose words are zero, or cancel each other, or have one bit.
func sampleWords() []impl.Cset {
	return []impl.Cset{{}, {Low: 1}, {High: 1}, {Low: 1, High: 1}, {Low: 1, High: -1}, {Low: -1, High: 1}, fullCset, {Low: -1}, {High: -1}, {Low: math.MinInt64}, {High: math.MinInt64}, {Low: math.MinInt64, High: math.MinInt64}, {Low: 1, High: 2}, {Low: 1 << 32}, {High: 1 << 32}}
}

// sampleFieldTexts are texts within, at and beyond the limit.
func sampleFieldTexts() []string {
	return []string{"", "a", "\x00", "\xff", "0", "ab", patternText(maxText - 1), patternText(maxText), patternText(maxText + 1), strings.Repeat("\u00e9", maxText/2), strings.Repeat("\u00e9", maxText/2) + "e", strings.Repeat("\x00", maxText+1), patternText(100000)}
}

// fullestValue is a value of a kind with the greatest that each used field may have, as far as there is a greatest.
func fullestValue(kind int) impl.Value {
	v := impl.Value{Kind: kind}
	greatest := map[string]int{"integer": maxInteger, "natural": math.MaxInt64, "keyword": 2}
	v.Number, v.Index = greatest[useOf(kind, "Number")], greatest[useOf(kind, "Index")]
	if useOf(kind, "Text") != "" {
		v.Text = patternText(maxText)
	}
	if useOf(kind, "Set") != "" {
		v.Set = fullCset
	}
	return v
}

// plainestValue is a value of a kind with zero in each field where the kind allows it.
func plainestValue(kind int) impl.Value {
	v := impl.Value{Kind: kind}
	if useOf(kind, "Index") == "keyword" {
		v.Index = 1
	}
	return v
}

func TestValueKinds(t *testing.T) {
	kinds := []int{
		impl.ValueNull, impl.ValueInteger, impl.ValueString, impl.ValueCset, impl.ValueList, impl.ValueTable, impl.ValueSet, impl.ValueRecord, impl.ValueRoutine, impl.ValueFunction, impl.ValueConstructor,
		impl.ValueCoexpression, impl.ValuePattern, impl.ValueLocal, impl.ValueGlobal, impl.ValueElement, impl.ValueField, impl.ValueEntry, impl.ValueKeyword, impl.ValueFrame, impl.ValueScan,
	}
	for number, kind := range kinds {
		if kind != number {
			t.Errorf("kind number %d has the value %d", number, kind)
		}
	}
	if len(kinds) != 21 || len(valueRules) != 21 {
		t.Errorf("there are %d kinds and %d rules", len(kinds), len(valueRules))
	}
}

// The limits of each kind, one value at a time and without the definition.
func TestWellFormedValues(t *testing.T) {
	full := patternText(maxText)
	for _, v := range []impl.Value{
		{}, {Kind: impl.ValueInteger}, {Kind: impl.ValueInteger, Number: maxInteger}, {Kind: impl.ValueInteger, Number: -maxInteger}, {Kind: impl.ValueInteger, Number: -1},
		{Kind: impl.ValueString}, {Kind: impl.ValueString, Text: "\xff\x00"}, {Kind: impl.ValueString, Text: full}, {Kind: impl.ValueCset}, {Kind: impl.ValueCset, Set: fullCset}, {Kind: impl.ValueCset, Set: impl.Cset{High: math.MinInt64}},
		{Kind: impl.ValueList}, {Kind: impl.ValueTable, Number: 7}, {Kind: impl.ValueSet, Number: math.MaxInt64}, {Kind: impl.ValueRecord, Number: 1}, {Kind: impl.ValueRoutine, Number: 12}, {Kind: impl.ValueFunction, Number: 55}, {Kind: impl.ValueConstructor, Number: 8},
		{Kind: impl.ValueCoexpression, Number: maxInteger + 1}, {Kind: impl.ValuePattern}, {Kind: impl.ValueLocal}, {Kind: impl.ValueLocal, Number: 3, Index: 24}, {Kind: impl.ValueGlobal}, {Kind: impl.ValueGlobal, Index: math.MaxInt64}, {Kind: impl.ValueElement, Number: 1, Index: 1000}, {Kind: impl.ValueField, Number: 2, Index: 6},
		{Kind: impl.ValueEntry}, {Kind: impl.ValueEntry, Number: 1}, {Kind: impl.ValueKeyword, Index: 1}, {Kind: impl.ValueKeyword, Index: 2}, {Kind: impl.ValueFrame}, {Kind: impl.ValueFrame, Number: 1}, {Kind: impl.ValueScan, Number: math.MaxInt64},
	} {
		checkWellFormed(t, v, true)
	}
	for _, v := range []impl.Value{
		{Kind: -1}, {Kind: 21}, {Number: 1}, {Number: -1}, {Index: 1}, {Text: "a"}, {Text: "\x00"}, {Set: impl.Cset{Low: 1}}, {Set: impl.Cset{High: -1}}, {Set: impl.Cset{Low: 1, High: -1}},
		{Kind: impl.ValueInteger, Number: maxInteger + 1}, {Kind: impl.ValueInteger, Number: -maxInteger - 1}, {Kind: impl.ValueInteger, Number: 1, Index: 1}, {Kind: impl.ValueInteger, Number: 1, Text: "1"},
		{Kind: impl.ValueString, Text: full + "a"}, {Kind: impl.ValueString, Text: "a", Number: 1}, {Kind: impl.ValueString, Text: "a", Index: -1}, {Kind: impl.ValueString, Text: "a", Set: impl.Cset{High: 2}},
		{Kind: impl.ValueCset, Set: fullCset, Text: "a"}, {Kind: impl.ValueCset, Number: 1}, {Kind: impl.ValueCset, Index: 1},
		{Kind: impl.ValueList, Number: -1}, {Kind: impl.ValueList, Index: 1}, {Kind: impl.ValueTable, Number: math.MinInt64}, {Kind: impl.ValueFunction, Number: -1}, {Kind: impl.ValueRoutine, Text: "p"}, {Kind: impl.ValueConstructor, Number: 1, Set: impl.Cset{Low: 2}},
		{Kind: impl.ValueLocal, Number: -1}, {Kind: impl.ValueLocal, Index: -1}, {Kind: impl.ValueGlobal, Number: 1}, {Kind: impl.ValueGlobal, Index: -1}, {Kind: impl.ValueElement, Index: math.MinInt64}, {Kind: impl.ValueField, Number: -1, Index: 1}, {Kind: impl.ValueEntry, Index: 1}, {Kind: impl.ValueEntry, Number: -1},
		{Kind: impl.ValueKeyword}, {Kind: impl.ValueKeyword, Index: 3}, {Kind: impl.ValueKeyword, Index: -1}, {Kind: impl.ValueKeyword, Number: 1}, {Kind: impl.ValueKeyword, Number: 1, Index: 1}, {Kind: impl.ValueFrame, Number: -1}, {Kind: impl.ValueFrame, Index: 1}, {Kind: impl.ValueScan, Number: -1}, {Kind: impl.ValueScan, Text: "s"},
	} {
		checkWellFormed(t, v, false)
	}
}

// Every kind with every number, text and set in one field, the others as plain and as full as the kind allows.
func TestEachFieldOfEachKind(t *testing.T) {
	for kind := range valueRules {
		for _, v := range []impl.Value{plainestValue(kind), fullestValue(kind)} {
			checkWellFormed(t, v, true)
			for _, n := range sampleFields() {
				number, index := v, v
				number.Number, index.Index = n, n
				checkWellFormed(t, number, numberIsRight(useOf(kind, "Number"), n))
				checkWellFormed(t, index, numberIsRight(useOf(kind, "Index"), n))
			}
			for _, s := range sampleFieldTexts() {
				text := v
				text.Text = s
				checkWellFormed(t, text, s == "" || kind == impl.ValueString && len(s) <= 120)
			}
			for _, c := range sampleWords() {
				set := v
				set.Set = c
				checkWellFormed(t, set, c == emptyCset || kind == impl.ValueCset)
			}
			for bit := range 64 {
				for _, c := range []impl.Cset{{Low: 1 << bit}, {High: 1 << bit}, {Low: 1 << bit, High: 1 << bit}, {Low: 1 << bit, High: -1 << bit}} {
					set := v
					set.Set = c
					checkWellFormed(t, set, kind == impl.ValueCset)
				}
			}
		}
	}
}

// All combinations of fields, with every kind and with what is no kind.
func TestAllFieldsOfAllKinds(t *testing.T) {
	numbers := append(extremeInts()[:3], -maxInteger-1, -maxInteger, -1, 0, 1, 2, 3, maxInteger, maxInteger+1, math.MaxInt64)
	texts := []string{"", "a", "\x00", patternText(maxText), patternText(maxText + 1)}
	for _, kind := range sampleKinds() {
		for _, number := range numbers {
			for _, index := range numbers {
				for _, text := range texts {
					for _, set := range sampleWords()[:7] {
						checkValue(t, impl.Value{Kind: kind, Number: number, Index: index, Text: text, Set: set})
					}
				}
			}
		}
	}
}

func TestRandomValues(t *testing.T) {
	random := rand.New(rand.NewPCG(11, 1))
	anyNumber := func() int {
		if random.IntN(2) == 0 {
			return 0
		}
		return int(random.Uint64() >> random.IntN(64))
	}
	wellFormed := 0
	for range 300000 {
		v := impl.Value{Kind: random.IntN(25) - 2, Number: anyNumber(), Index: anyNumber()}
		if random.IntN(4) == 0 {
			v.Text = patternText(random.IntN(2 * maxText))
		}
		if random.IntN(4) == 0 {
			v.Set = impl.Cset{Low: anyNumber(), High: anyNumber()}
		}
		checkValue(t, v)
		if impl.IsWellFormed(v) {
			wellFormed++
		}
	}
	if wellFormed < 10000 || wellFormed > 290000 {
		t.Errorf("%d values are well-formed", wellFormed)
	}
}

func TestReferences(t *testing.T) {
	references := []int{impl.ValueLocal, impl.ValueGlobal, impl.ValueElement, impl.ValueField, impl.ValueEntry, impl.ValueKeyword}
	for _, kind := range sampleKinds() {
		for _, v := range []impl.Value{{}, {Number: -1}, {Number: 15, Index: 14, Text: "variable"}, {Index: math.MinInt64, Text: patternText(maxText + 1), Set: fullCset}} {
			v.Kind = kind
			if got := impl.IsReference(v); got != slices.Contains(references, kind) {
				t.Errorf("IsReference(%s) = %v", valueForm(v), got)
			}
		}
	}
}

func TestTypeNames(t *testing.T) {
	names := []string{"null", "integer", "string", "cset", "list", "table", "set", "record", "procedure", "procedure", "procedure", "co-expression", "pattern", "variable", "variable", "variable", "variable", "variable", "variable", "frame", "scan"}
	for _, kind := range sampleKinds() {
		want := ""
		if kind >= 0 && kind <= 20 {
			want = names[kind]
		}
		for _, v := range []impl.Value{{}, {Number: -1}, {Number: 3, Index: 4, Text: "scan"}, {Index: math.MinInt64, Text: patternText(maxText + 1), Set: fullCset}} {
			v.Kind = kind
			if got := impl.TypeName(v); got != want {
				t.Errorf("TypeName(%s) = %q, want %q", valueForm(v), got, want)
			}
		}
	}
}

// checkMade expects the value that a function has made, or the zero one if there is none.
func checkMade(t *testing.T, name string, v impl.Value, ok bool, want impl.Value, accepted bool) {
	t.Helper()
	if !accepted {
		want = impl.Value{}
	}
	if v != want || ok != accepted {
		t.Fatalf("%s = %s, %v, want %s, %v", name, valueForm(v), ok, valueForm(want), accepted)
	}
	if ok {
		checkWellFormed(t, v, true)
	}
}

func checkIntegerValue(t *testing.T, n int, accepted bool) {
	t.Helper()
	v, ok := impl.IntegerValue(n)
	checkMade(t, "IntegerValue("+strconv.Itoa(n)+")", v, ok, impl.Value{Kind: 1, Number: n}, accepted)
}

func checkStringValue(t *testing.T, s string, accepted bool) {
	t.Helper()
	v, ok := impl.StringValue(s)
	checkMade(t, "StringValue of "+strconv.Itoa(len(s))+" bytes", v, ok, impl.Value{Kind: 2, Text: s}, accepted)
}

func TestIntegerValue(t *testing.T) {
	for _, n := range []int{0, 1, -1, 7, 42, maxInteger - 1, maxInteger, 1 - maxInteger, -maxInteger} {
		checkIntegerValue(t, n, true)
	}
	for _, n := range []int{maxInteger + 1, maxInteger + 2, -maxInteger - 1, -maxInteger - 2, 2 * maxInteger, math.MaxInt64, math.MinInt64} {
		checkIntegerValue(t, n, false)
	}
	for _, n := range slices.Concat(integersOfAllSizes(), extremeInts(), sampleFields()) {
		checkIntegerValue(t, n, n >= -maxInteger && n <= maxInteger)
	}
	for n := -1000; n <= 1000; n++ {
		checkIntegerValue(t, n, true)
		checkIntegerValue(t, n+maxInteger, n <= 0)
		checkIntegerValue(t, n-maxInteger, n >= 0)
	}
}

func TestStringValue(t *testing.T) {
	for size := range 300 {
		for _, s := range []string{patternText(size), strings.Repeat("a", size), strings.Repeat("\x00", size), strings.Repeat("\xff", size)} {
			checkStringValue(t, s, size <= 120)
		}
	}
	// The limit is one of bytes, and not of runes.
	checkStringValue(t, strings.Repeat("\u00e9", 60), true)
	checkStringValue(t, strings.Repeat("\u00e9", 60)+"e", false)
	checkStringValue(t, strings.Repeat("\U0001f600", 30), true)
	checkStringValue(t, strings.Repeat("\U0001f600", 31), false)
	checkStringValue(t, patternText(1000000), false)
	for b := range 256 {
		checkStringValue(t, bytesOf(byte(b)), true)
		checkStringValue(t, patternText(maxText-1)+bytesOf(byte(b)), true)
		checkStringValue(t, patternText(maxText)+bytesOf(byte(b)), false)
	}
}

// Values are identical if they are equal as structs: the kind counts, and no field that it does not use can tell two apart.
func TestIdenticalValues(t *testing.T) {
	var made []impl.Value
	for _, n := range []int{0, 1, -1, 12, maxInteger} {
		v, _ := impl.IntegerValue(n)
		text, _ := impl.StringValue(impl.FormatInt(n))
		made = append(made, v, text)
	}
	empty, _ := impl.StringValue("")
	made = append(made, empty, impl.Value{}, impl.Value{Kind: impl.ValueCset}, impl.Value{Kind: impl.ValueCset, Set: impl.Cset{Low: 1}}, impl.Value{Kind: impl.ValueList}, impl.Value{Kind: impl.ValueTable}, impl.Value{Kind: impl.ValueLocal, Index: 1}, impl.Value{Kind: impl.ValueLocal, Number: 1})
	for i, a := range made {
		checkWellFormed(t, a, true)
		for k, b := range made {
			if (a == b) != (i == k) {
				t.Errorf("%s and %s: equal is %v", valueForm(a), valueForm(b), a == b)
			}
		}
	}
	for n := range 100 {
		first, _ := impl.StringValue(patternText(n))
		second, _ := impl.StringValue(patternText(n))
		if first != second {
			t.Errorf("two values of the same %d bytes are not identical", n)
		}
	}
}

func TestFaultTexts(t *testing.T) {
	messages := map[int]string{}
	for _, entry := range strings.Split(faultList, "; ") {
		digits, message, _ := strings.Cut(entry, " ")
		code, err := strconv.Atoi(digits)
		if err != nil {
			t.Fatal(err)
		}
		messages[code] = message
	}
	if len(messages) != 19 || messages[101] != "integer expected or out of range" || messages[302] != "result too large" {
		t.Fatalf("the list has %d messages", len(messages))
	}
	codes := extremeInts()
	for code := -1000; code <= 2000; code++ {
		codes = append(codes, code)
	}
	for code := range messages {
		codes = append(codes, code+1<<16, code+1<<32, code+math.MinInt64, code-1<<32, 10*code, 100*code, -code)
	}
	for _, code := range codes {
		if got := impl.FaultText(code); got != messages[code] {
			t.Errorf("FaultText(%d) = %q, want %q", code, got, messages[code])
		}
	}
}

// The bytes of the argument are changed after the call: a value that shares them would change too.
func TestStringValuesShareNoMemory(t *testing.T) {
	for _, size := range []int{1, 6, maxText} {
		data := []byte(patternText(size))
		text := unsafe.String(&data[0], len(data))
		first, ok := impl.StringValue(text)
		second, again := impl.StringValue(text)
		if !ok || !again || string(data) != patternText(size) {
			t.Fatalf("StringValue of %d bytes: %v, %v, %q", size, ok, again, data)
		}
		clear(data)
		if first.Text != patternText(size) || second.Text != patternText(size) {
			t.Errorf("the value of %d bytes shares memory with its argument", size)
		}
		if unsafe.StringData(first.Text) == unsafe.StringData(second.Text) {
			t.Errorf("two values of %d bytes share memory", size)
		}
	}
}

func TestValueFunctionsKeepNoState(t *testing.T) {
	for range 3 {
		checkIntegerValue(t, 5, true)
		checkIntegerValue(t, maxInteger+1, false)
		checkStringValue(t, "ab", true)
		checkStringValue(t, patternText(maxText+1), false)
		checkStringValue(t, "", true)
		checkWellFormed(t, impl.Value{Kind: impl.ValueCset, Set: fullCset}, true)
		checkWellFormed(t, impl.Value{Kind: impl.ValueScan, Set: fullCset}, false)
		checkWellFormed(t, impl.Value{Kind: impl.ValueKeyword}, false)
		if impl.FaultText(201) != "division by zero" || impl.FaultText(200) != "" || impl.TypeName(impl.Value{Kind: 21}) != "" {
			t.Error("a text depends on earlier calls")
		}
	}
}
