package tests

import (
	"fmt"
	"regexp"
	"strconv"
	"strings"
	"testing"
	"unsafe"

	"loop.example/g03106/impl"
)

const maxInteger = 999999999999

// The forms of the specification, written as regular expressions: a byte from 32 to 126 without the delimiter and the backslash, or an escape.
const (
	escapeForm      = `\\[nt\\"']|\\x[0-9a-f]{2}`
	textElementForm = `[ -!#-\[\]-~]|` + escapeForm
	csetElementForm = `[ -&(-\[\]-~]|` + escapeForm
)

// literalRule is one kind of literals: the whole form, and that of one element.
type literalRule struct {
	whole   *regexp.Regexp
	element *regexp.Regexp
}

func textRule() literalRule {
	return literalRule{regexp.MustCompile(`\A"(?:` + textElementForm + `)*"\z`), regexp.MustCompile(textElementForm)}
}

func csetRule() literalRule {
	return literalRule{regexp.MustCompile(`\A'(?:` + csetElementForm + `)*'\z`), regexp.MustCompile(csetElementForm)}
}

// denoted is what a literal denotes by its rule.
func (r literalRule) denoted(s string) (string, bool) {
	if !r.whole.MatchString(s) {
		return "", false
	}
	short := map[string]string{`\n`: "\n", `\t`: "\t", `\\`: "\x5c", `\"`: "\x22", `\'`: "\x27"}
	text := ""
	for _, element := range r.element.FindAllString(s[1:len(s)-1], -1) {
		switch len(element) {
		case 1:
			text += element
		case 2:
			text += short[element]
		default:
			value, _ := strconv.ParseUint(element[2:], 16, 8)
			text += bytesOf(byte(value))
		}
	}
	return text, true
}

// quotedByte is what stands for a byte in a literal with this delimiter.
func quotedByte(b byte, delimiter byte) string {
	named := map[byte]string{'\n': `\n`, '\t': `\t`, '\\': `\\`, delimiter: `\` + bytesOf(delimiter)}
	if form, found := named[b]; found {
		return form
	}
	if b < 32 || b > 126 {
		return fmt.Sprintf(`\x%02x`, b)
	}
	return bytesOf(b)
}

// quotedBytes is the literal of the bytes of s.
func quotedBytes(s string, delimiter byte) string {
	var literal strings.Builder
	literal.WriteByte(delimiter)
	for i := range len(s) {
		literal.WriteString(quotedByte(s[i], delimiter))
	}
	literal.WriteByte(delimiter)
	return literal.String()
}

// everyByte is the text of the bytes from 0 to 255.
func everyByte() string {
	text := ""
	for b := range 256 {
		text += bytesOf(byte(b))
	}
	return text
}

// checkUnquoteText compares UnquoteText with the text that is wanted.
func checkUnquoteText(t *testing.T, literal string, want string, accepted bool) {
	t.Helper()
	got, ok := impl.UnquoteText(literal)
	checkText(t, fmt.Sprintf("UnquoteText(%.80q)", literal), got, ok, want, accepted)
}

// checkUnquoteCset compares UnquoteCset with the set of the bytes that are wanted; one above 127 makes the literal a wrong one.
func checkUnquoteCset(t *testing.T, literal string, elements string, accepted bool) {
	t.Helper()
	want := csetOf(membersIn(elements))
	if !accepted || strings.ContainsFunc(elements, func(r rune) bool { return r > 127 }) {
		want, accepted = emptyCset, false
	}
	if got, ok := impl.UnquoteCset(literal); got != want || ok != accepted {
		t.Fatalf("UnquoteCset(%.80q) = %x, %v, want %x, %v", literal, got, ok, want, accepted)
	}
}

// checkBothUnquote reads s as a literal of either kind and compares with the rules.
func checkBothUnquote(t *testing.T, texts literalRule, csets literalRule, s string) {
	t.Helper()
	text, isText := texts.denoted(s)
	checkUnquoteText(t, s, text, isText)
	elements, isCset := csets.denoted(s)
	checkUnquoteCset(t, s, elements, isCset)
}

func TestMaxInteger(t *testing.T) {
	if impl.MaxInteger != maxInteger {
		t.Errorf("MaxInteger = %d", impl.MaxInteger)
	}
}

func TestQuoteText(t *testing.T) {
	cases := [][2]string{
		{"", `""`},
		{"a", `"a"`},
		{"banana", `"banana"`},
		{" ", `" "`},
		{"~", `"~"`},
		{"\"", `"\""`},
		{"\\", `"\\"`},
		{"'", `"'"`},
		{"\n", `"\n"`},
		{"\t", `"\t"`},
		{"\\n", `"\\n"`},
		{"\\\n", `"\\\n"`},
		{"\\\"", `"\\\""`},
		{"\\\\", `"\\\\"`},
		{"\"\"", `"\"\""`},
		{"\x00", `"\x00"`},
		{"\x07", `"\x07"`},
		{"\x08", `"\x08"`},
		{"\x0b", `"\x0b"`},
		{"\r", `"\x0d"`},
		{"\x1f", `"\x1f"`},
		{"\x7f", `"\x7f"`},
		{"\x80", `"\x80"`},
		{"\xab", `"\xab"`},
		{"\xff", `"\xff"`},
		{"\u00e9", `"\xc3\xa9"`},
		{"a\"\n\x00", `"a\"\n\x00"`},
		{"\x001", `"\x001"`},
		{"say \"it's\"", `"say \"it's\""`},
	}
	for _, c := range cases {
		if got := impl.QuoteText(c[0]); got != c[1] {
			t.Errorf("QuoteText(%q) = %s, want %s", c[0], got, c[1])
		}
		checkUnquoteText(t, c[1], c[0], true)
	}
}

func TestQuoteTextOfEveryByte(t *testing.T) {
	for b := range 256 {
		one := bytesOf(byte(b))
		for _, s := range []string{one, one + one, "a" + one, one + "a", "\\" + one, one + "\\", "\"" + one + "\"", "x" + one + "0"} {
			want := quotedBytes(s, '"')
			if got := impl.QuoteText(s); got != want {
				t.Fatalf("QuoteText(%q) = %s, want %s", s, got, want)
			}
			checkUnquoteText(t, want, s, true)
		}
	}
}

func TestQuotedTextsDenoteWhatWasQuoted(t *testing.T) {
	texts := textsOver("a\"'\\nx0\n\x00\xff", 5)
	all := everyByte()
	texts = append(texts, all, impl.ReverseText(all), all+all, strings.Repeat("\\", 9), strings.Repeat("\"", 9))
	for _, s := range texts {
		literal := impl.QuoteText(s)
		if want := quotedBytes(s, '"'); literal != want {
			t.Fatalf("QuoteText(%q) = %s, want %s", s, literal, want)
		}
		checkUnquoteText(t, literal, s, true)
		again := impl.QuoteText(literal)
		checkUnquoteText(t, again, literal, true)
	}
}

func TestUnquoteTextAccepts(t *testing.T) {
	cases := [][2]string{
		{`""`, ""},
		{`"'"`, "'"},
		{`"\'"`, "'"},
		{`"\""`, "\""},
		{`"\\"`, "\\"},
		{`"\\\\"`, "\\\\"},
		{`"\\\""`, "\\\""},
		{`"\n\t"`, "\n\t"},
		{`"\\n"`, "\\n"},
		{`"\x41\x7e\x20"`, "A~ "},
		{`"\x0a\x09\x22\x5c\x27"`, "\n\t\"\\'"},
		{`"\x00\x1f\x7f\x80\xff"`, "\x00\x1f\x7f\x80\xff"},
		{`"\x414"`, "A4"},
		{`"x41"`, "x41"},
		{`"nt"`, "nt"},
		{`" a "`, " a "},
		{`"~ !"`, "~ !"},
		{`"# not a comment"`, "# not a comment"},
	}
	for _, c := range cases {
		checkUnquoteText(t, c[0], c[1], true)
	}
}

// wrongInside lists what may not stand between delimiters of either kind.
func wrongInside() []string {
	return []string{
		// A backslash before the closing delimiter, or an escape that is cut off there.
		`\`, `a\`, `\\\`, `\\\\\`, `\n\`, `\x41\`, `\x`, `\x4`, `\xa`, `a\x`, `a\xf`, `\x41\x`, `\x41\x4`, `\\\x`, `\\\x4`,
		// Escapes that do not exist.
		`\q`, `\a`, `\b`, `\f`, `\r`, `\v`, `\e`, `\0`, `\1`, `\012`, `\N`, `\T`, `\X41`, `\u0041`, `\U00000041`, `\ `, `\ n`, `\/`, `\#`, "\\\n", "\\\t", "\\\x00", "\\\x7f", "\\\xff", "\\\u00e9", `a\qb`, `\\\q`,
		// Hexadecimal digits that are none, too few, or in upper case.
		`\xAB`, `\xA0`, `\x0A`, `\xaB`, `\xFf`, `\xfF`, `\x4g`, `\xg4`, `\xgg`, `\x 4`, `\x4 `, `\x-1`, `\x+1`, `\x0x`, `\xx4`, `\x/0`, `\x0/`, `\x:0`, `\x0:`, "\\x`0", "\\x0`", `\x@0`, `\x0@`, `\xG0`, `\x\x41`, `\x4\x41`, `\x4\n`, "\\x4\n", "\\x\xff0", "\\x0\x80",
		// Bytes that only escapes may denote.
		"\n", "\t", "\x00", "\r", "\x1f", "\x7f", "\x80", "\xff", "a\nb", "a\x1f", "\x1fa", "a\x7f", "\x80a", "\u00e9", "\u201c",
	}
}

func TestUnquoteTextRejects(t *testing.T) {
	list := []string{
		"", `"`, `a`, `a"`, `"a`, `"\"`, `'`, `''`, `'a'`, `"a'`, `'a"`, `"'`, `'"`,
		`x""`, `""x`, ` ""`, `"" `, ` "a"`, `"a" `, "\"a\"\n", "\n\"a\"", "\"a\"\x00", `"a"b`, `b"a"`,
		`"""`, `""""`, `"a""`, `""a"`, `"a"b"`, `"a" "b"`, `"\\""`, `"a\""b"`,
		"`a`", "\u201ca\u201d",
	}
	for _, inside := range wrongInside() {
		list = append(list, `"`+inside+`"`)
	}
	for _, s := range list {
		checkUnquoteText(t, s, "", false)
	}
}

func TestUnquoteCsetRejects(t *testing.T) {
	list := []string{
		"", `'`, `a`, `a'`, `'a`, `'\'`, `"`, `""`, `"a"`, `'a"`, `"a'`, `'"`, `"'`,
		`x''`, `''x`, ` ''`, `'' `, ` 'a'`, `'a' `, "'a'\n", "\n'a'", "'a'\x00", `'a'b`, `b'a'`,
		`'''`, `''''`, `'a''`, `''a'`, `'a'b'`, `'a' 'b'`, `'\\''`, `'a\''b'`,
		`'\x80'`, `'\x81'`, `'\xff'`, `'\xc3\xa9'`, `'a\x80'`, `'\x80a'`, `'\x7f\x80'`, `'abc\xffabc'`,
		"`a`", "\u2018a\u2019",
	}
	for _, inside := range wrongInside() {
		list = append(list, `'`+inside+`'`)
	}
	for _, s := range list {
		checkUnquoteCset(t, s, "", false)
	}
}

func TestUnquoteByRules(t *testing.T) {
	texts, csets := textRule(), csetRule()
	for _, s := range textsOver("\"'\\nx0fg A\x1f\x80", 4) {
		for _, literal := range []string{s, `"` + s + `"`, `'` + s + `'`, `"` + s + `'`} {
			checkBothUnquote(t, texts, csets, literal)
		}
	}
	for _, s := range textsOver(`\x4a"'`, 6) {
		checkBothUnquote(t, texts, csets, `"`+s+`"`)
		checkBothUnquote(t, texts, csets, `'`+s+`'`)
	}
}

func TestUnquoteEveryByteAndEscape(t *testing.T) {
	texts, csets := textRule(), csetRule()
	for b := range 256 {
		one := bytesOf(byte(b))
		for _, inside := range []string{one, `\` + one, `\\` + one, `\` + one + one, `\x` + one, `\x` + one + `\`, `a` + one + `b`, `\` + one + `41`} {
			checkBothUnquote(t, texts, csets, `"`+inside+`"`)
			checkBothUnquote(t, texts, csets, `'`+inside+`'`)
		}
		checkBothUnquote(t, texts, csets, one+`a"`)
		checkBothUnquote(t, texts, csets, `"a`+one)
		checkBothUnquote(t, texts, csets, one+`'a'`)
		checkBothUnquote(t, texts, csets, `'a'`+one)
		for c := range 256 {
			inside := `\x` + one + bytesOf(byte(c))
			checkBothUnquote(t, texts, csets, `"`+inside+`"`)
			checkBothUnquote(t, texts, csets, `'`+inside+`'`)
		}
	}
}

func TestQuoteCset(t *testing.T) {
	cases := [][2]string{
		{"", `''`},
		{"cab", `'abc'`},
		{"banana", `'abn'`},
		{"'", `'\''`},
		{"\"", `'"'`},
		{"'\"", `'"\''`},
		{"ba'a", `'\'ab'`},
		{"\\", `'\\'`},
		{"\n\t", `'\t\n'`},
		{"\x00", `'\x00'`},
		{"\x1f ", `'\x1f '`},
		{"~\x7f", `'~\x7f'`},
		{"z\x7f\x00A", `'\x00Az\x7f'`},
		{"9876543210", `'0123456789'`},
	}
	for _, c := range cases {
		set := csetOf(membersIn(c[0]))
		if got := impl.QuoteCset(set); got != c[1] {
			t.Errorf("QuoteCset of %q is %s, want %s", c[0], got, c[1])
		}
		checkUnquoteCset(t, c[1], c[0], true)
	}
}

func TestQuotedCsetsDenoteWhatWasQuoted(t *testing.T) {
	for _, c := range append(sampleCsets(), emptyCset, fullCset) {
		elements := ""
		for b, inside := range membersOf(c) {
			if inside {
				elements += bytesOf(byte(b))
			}
		}
		literal := impl.QuoteCset(c)
		if want := quotedBytes(elements, '\''); literal != want {
			t.Fatalf("QuoteCset(%x) = %s, want %s", c, literal, want)
		}
		if got, ok := impl.UnquoteCset(literal); got != c || !ok {
			t.Fatalf("UnquoteCset(%s) = %x, %v, want %x", literal, got, ok, c)
		}
	}
}

func TestUnquoteCsetInAnyOrder(t *testing.T) {
	cases := [][2]string{
		{`''`, ""},
		{`'abc'`, "abc"},
		{`'cba'`, "abc"},
		{`'banana'`, "abn"},
		{`'aaaaaaa'`, "a"},
		{`'ba\'a'`, "'ab"},
		{`'"'`, "\""},
		{`'\"'`, "\""},
		{`'"\""'`, "\""},
		{`'\'"'`, "\"'"},
		{`'\x27\''`, "'"},
		{`'\\'`, "\\"},
		{`'\x41A'`, "A"},
		{`'\n\t\n'`, "\t\n"},
		{`'\x7f'`, "\x7f"},
		{`'\x7f\x00\x7f'`, "\x00\x7f"},
		{`'~\x7f '`, " ~\x7f"},
	}
	for _, c := range cases {
		checkUnquoteCset(t, c[0], c[1], true)
	}
	all := everyByte()[:128]
	for _, s := range []string{all, impl.ReverseText(all), all + all, all[64:] + all[:64]} {
		literal := quotedBytes(s, '\'')
		if got, ok := impl.UnquoteCset(literal); got != fullCset || !ok {
			t.Errorf("UnquoteCset(%s) = %x, %v", literal, got, ok)
		}
	}
}

func TestLiteralsOfLongTexts(t *testing.T) {
	for _, unit := range []string{"a", "\\", "\"", "'", "\n", "\x00", "\xff", everyByte()} {
		s := strings.Repeat(unit, 300000/len(unit))
		literal := impl.QuoteText(s)
		if literal != quotedBytes(s, '"') {
			t.Errorf("QuoteText of many %.20q has %d bytes", unit, len(literal))
		}
		checkUnquoteText(t, literal, s, true)
		checkUnquoteText(t, literal[:len(literal)-1], "", false)
		checkUnquoteText(t, literal[1:], "", false)
		checkUnquoteText(t, literal+literal, "", false)
		checkUnquoteText(t, literal[:len(literal)-1]+`\"`, "", false)
		checkUnquoteText(t, `"\q`+literal[1:], "", false)
		checkUnquoteText(t, "\"\xff"+literal[1:], "", false)
	}
	long := strings.Repeat(`ab\'\x7f`, 40000)
	checkUnquoteCset(t, `'`+long+`'`, "'ab\x7f", true)
	checkUnquoteCset(t, `'`+long+`\`+`'`, "", false)
	checkUnquoteCset(t, `'`+long+`\x80'`, "", false)
	checkUnquoteCset(t, `'`+long+`''`, "", false)
	backslashes := strings.Repeat(`\`, 100000)
	checkUnquoteText(t, `"`+backslashes+`"`, backslashes[:50000], true)
	checkUnquoteText(t, `"`+backslashes+`\"`, "", false)
	checkUnquoteText(t, `"`+backslashes+`\""`, backslashes[:50000]+`"`, true)
}

// checkIntegerOfText compares IntegerOfText with the integer that is wanted.
func checkIntegerOfText(t *testing.T, s string, want int, accepted bool) {
	t.Helper()
	if got, ok := impl.IntegerOfText(s); got != want || ok != accepted {
		t.Fatalf("IntegerOfText(%.80q) = %d, %v, want %d, %v", s, got, ok, want, accepted)
	}
}

func TestIntegerOfTextAccepts(t *testing.T) {
	many := strings.Repeat(" ", 100000)
	cases := map[string]int{
		"0": 0, "7": 7, "10": 10, "-07": -7, " -07 ": -7, "+7": 7, "-7": -7, " 7": 7, "7 ": 7, "  7   ": 7, " +7": 7, "-7 ": -7,
		"+0": 0, "-0": 0, "00": 0, "-00": 0, "007": 7, "+007": 7, "-010": -10, "000000000000": 0, "000000000001": 1, "-000000000012": -12,
		"123456789012": 123456789012, "999999999999": maxInteger, "-999999999999": -maxInteger, "+999999999999": maxInteger, " -999999999999 ": -maxInteger, "100000000000": 100000000000,
		many + "42": 42, "-42" + many: -42, many + "+42" + many: 42,
	}
	for s, want := range cases {
		checkIntegerOfText(t, s, want, true)
	}
}

func TestIntegerOfTextRejects(t *testing.T) {
	many := strings.Repeat(" ", 100000)
	list := []string{
		"", " ", "   ", many, "+", "-", " + ", " - ", "+ ", " -", "--1", "++1", "+-1", "-+1", "- 1", "+ 1", "-  1", "1-", "1+", "1 -", "1 +", "-1-",
		"1 2", "1  2", " 1 2 ", "12 3", "1" + many + "2", "a", "1a", "a1", "1.0", "1.", ".1", "1e3", "0x10", "1_000", "1,000", "0b1", "'1'", "\"1\"",
		"1234567890123", "0000000000000", "0000000000001", "-1234567890123", "+1234567890123", " 1234567890123 ", "1000000000000", "-1000000000000", "9999999999999", "-0999999999999",
		"9223372036854775807", "-9223372036854775808", "18446744073709551616", "18446744073709551617", strings.Repeat("0", 100000), strings.Repeat("9", 100000), "-" + strings.Repeat("0", 100000) + "1",
		"\t1", "1\t", "\n1", "1\n", "\r1", "1\r", "\v1", "1\f", "\x001", "1\x00", "1\x7f", "\x1f1", "1\x80", "\xff1", "\u00a01", "1\u00a0", "\u30001", "\u20031", "\u0085" + "1",
		"\u0661", "\uff11", "\u00b2", "\u22121", "\uff0b1",
		" \t1", "1 \n", "- 1 ", " 1\t ",
	}
	for _, s := range list {
		checkIntegerOfText(t, s, 0, false)
	}
}

// checkInteger compares with the form of the specification, written as a regular expression.
func checkInteger(t *testing.T, form *regexp.Regexp, s string) {
	t.Helper()
	accepted := form.MatchString(s)
	want := 0
	if accepted {
		want, _ = strconv.Atoi(strings.ReplaceAll(s, " ", ""))
	}
	checkIntegerOfText(t, s, want, accepted)
}

func TestIntegerOfTextByForm(t *testing.T) {
	form := regexp.MustCompile(`\A *[+-]?[0-9]{1,12} *\z`)
	for _, s := range textsOver(" +-019x", 6) {
		checkInteger(t, form, s)
	}
	for b := range 256 {
		one := bytesOf(byte(b))
		for _, s := range []string{"", "5", " 5 ", "-5", "+12", "- ", "123456789012", "12345678901"} {
			for k := range len(s) + 1 {
				checkInteger(t, form, s[:k]+one+s[k:])
			}
		}
	}
	for size := range 41 {
		for _, digits := range []string{"1234567890", "0", "9", "0000000001", "1000000000"} {
			number := strings.Repeat(digits, 5)[:size%(5*len(digits)+1)]
			for _, before := range []string{"", " ", "  ", "+", "-", " +", " -", "- "} {
				for _, after := range []string{"", " ", "   "} {
					checkInteger(t, form, before+number+after)
				}
			}
		}
	}
}

func TestIntegerOfTextOfDecimalForms(t *testing.T) {
	for _, n := range integersOfAllSizes() {
		inside := -maxInteger <= n && n <= maxInteger
		want := 0
		if inside {
			want = n
		}
		checkIntegerOfText(t, impl.FormatInt(n), want, inside)
		checkIntegerOfText(t, "  "+impl.FormatInt(n)+" ", want, inside)
	}
}

// The bytes of the arguments are changed after the calls: a result that shares them would change too.
func TestLiteralsShareNoMemory(t *testing.T) {
	plain, literal, set := []byte("banana"), []byte(`"banana"`), []byte(`'banana'`)
	plainText := unsafe.String(&plain[0], len(plain))
	literalText := unsafe.String(&literal[0], len(literal))
	setText := unsafe.String(&set[0], len(set))
	quoted, quotedAgain := impl.QuoteText(plainText), impl.QuoteText(plainText)
	text, _ := impl.UnquoteText(literalText)
	textAgain, _ := impl.UnquoteText(literalText)
	c, _ := impl.UnquoteCset(setText)
	elements, elementsAgain := impl.QuoteCset(c), impl.QuoteCset(c)
	if string(plain) != "banana" || string(literal) != `"banana"` || string(set) != `'banana'` {
		t.Fatalf("arguments were changed to %q, %q, %q", plain, literal, set)
	}
	clear(plain)
	clear(literal)
	clear(set)
	if quoted != `"banana"` || text != "banana" || elements != "'abn'" || impl.QuoteCset(c) != "'abn'" {
		t.Errorf("results share memory with arguments: %q, %q, %q, %q", quoted, text, elements, impl.QuoteCset(c))
	}
	for _, pair := range [][2]string{{quoted, quotedAgain}, {text, textAgain}, {elements, elementsAgain}, {quoted[1:], text}} {
		if unsafe.StringData(pair[0]) == unsafe.StringData(pair[1]) {
			t.Errorf("two results share the memory of %q", pair[0])
		}
	}
}

func TestLiteralFunctionsKeepNoState(t *testing.T) {
	for range 3 {
		checkUnquoteText(t, `"a\x41"`, "aA", true)
		checkUnquoteText(t, `"a\q"`, "", false)
		checkUnquoteText(t, `""`, "", true)
		checkUnquoteCset(t, `'ba'`, "ab", true)
		checkUnquoteCset(t, `'\x80'`, "", false)
		checkUnquoteCset(t, `''`, "", true)
		checkIntegerOfText(t, " -07 ", -7, true)
		checkIntegerOfText(t, " - 07 ", 0, false)
		if impl.QuoteText("a\n") != `"a\n"` || impl.QuoteText("") != `""` || impl.QuoteCset(emptyCset) != `''` {
			t.Error("QuoteText or QuoteCset depends on earlier calls")
		}
	}
}
