package tests

import (
	"fmt"
	"math"
	"math/rand/v2"
	"regexp"
	"slices"
	"strconv"
	"strings"
	"testing"
	"unsafe"

	"loop.example/g03106/impl"
)

const (
	maxSource = 6000
	maxName   = 12
)

// The lists of chapter 5.
const (
	reservedList       = "procedure end global local record if then else while until every do repeat case of default return suspend fail break next create to by not defer"
	keywordList        = "null fail subject pos lcase ucase letters digits"
	operatorList       = `|||:= ||:= ++:= --:= **:= ~=== ||| === ~== <-> :=: <<= >>= +:= -:= *:= /:= %:= ^:= := <- <= >= ~= << >> == || ++ -- ** ?? -> => .> .| + - * / % ^ < > = ~ | & ! ? @ . \ ( ) [ ] { } , ; :`
	beginningWords     = "if while until every repeat case return suspend fail break next create not defer"
	beginningOperators = `+ - * / = ~ | ! @ . \ ^ .> ( [ {`
	endingWords        = "return suspend fail break next"
	endingOperators    = ") ] }"
)

// listed reports whether a word is one of a list.
func listed(list string, word string) bool {
	return slices.Contains(strings.Fields(list), word)
}

// wordsOf returns the words of several lists.
func wordsOf(lists ...string) []string {
	return strings.Fields(strings.Join(lists, " "))
}

// shown writes tokens as their kinds, quoted texts and lines.
func shown(list []impl.Token) string {
	names := []string{"none", "name", "reserved", "integer", "string", "cset", "keyword", "operator"}
	var parts []string
	for _, token := range list {
		kind := strconv.Itoa(token.Kind)
		if 0 <= token.Kind && token.Kind < len(names) {
			kind = names[token.Kind]
		}
		parts = append(parts, fmt.Sprintf("%s%q%d", kind, token.Text, token.Line))
	}
	return strings.Join(parts, " ")
}

// checkLex compares the tokens of a source with those that are wanted, in the form of shown.
func checkLex(t *testing.T, source string, want string) {
	t.Helper()
	list, line := impl.Lex(source)
	if got := shown(list); got != want || line != 0 {
		t.Errorf("Lex(%.200q) = %.400s, %d, want %.400s", source, got, line, want)
	}
}

// checkLexError expects an error in a line.
func checkLexError(t *testing.T, source string, want int) {
	t.Helper()
	if list, line := impl.Lex(source); len(list) > 0 || line != want {
		t.Errorf("Lex(%.200q) = %.400s, %d, want an error in line %d", source, shown(list), line, want)
	}
}

// begins is BeginsExpression by the lists.
func begins(token impl.Token) bool {
	return isPlace(token, beginningWords, beginningOperators)
}

// ends is EndsExpression by the lists.
func ends(token impl.Token) bool {
	return isPlace(token, endingWords, endingOperators)
}

func isPlace(token impl.Token, reserved string, operators string) bool {
	switch token.Kind {
	case 1, 3, 4, 5, 6:
		return true
	case 2:
		return listed(reserved, token.Text)
	case 7:
		return listed(operators, token.Text)
	}
	return false
}

// tokenRules are the forms of chapter 5 as regular expressions, each for the place where a token begins.
type tokenRules struct {
	gap, word, number, literal, keyword, operator *regexp.Regexp
	texts, csets                                  literalRule
}

func newTokenRules() tokenRules {
	operators := wordsOf(operatorList)
	slices.SortFunc(operators, func(a, b string) int { return len(b) - len(a) })
	for i := range operators {
		operators[i] = regexp.QuoteMeta(operators[i])
	}
	return tokenRules{
		gap:      regexp.MustCompile(`\A(?:[ \t\n]|#[^\n]*)*`),
		word:     regexp.MustCompile(`\A[A-Za-z_][A-Za-z_0-9]*`),
		number:   regexp.MustCompile(`\A[0-9][A-Za-z_0-9]*`),
		literal:  regexp.MustCompile(`\A(?s:"(?:[^"\\]|\\.)*"|'(?:[^'\\]|\\.)*')`),
		keyword:  regexp.MustCompile(`\A&[A-Za-z_]+`),
		operator: regexp.MustCompile(`\A(?:` + strings.Join(operators, "|") + `)`),
		texts:    textRule(),
		csets:    csetRule(),
	}
}

// first returns the kind, the text and the size of the token at the start of rest; the kind 0 if there is none.
func (r tokenRules) first(rest string) (int, string, int) {
	if word := r.word.FindString(rest); word != "" {
		switch {
		case listed(reservedList, word):
			return 2, word, len(word)
		case len(word) <= maxName:
			return 1, word, len(word)
		}
		return 0, "", 0
	}
	if number := r.number.FindString(rest); number != "" {
		if len(number) > 12 || strings.Trim(number, "0123456789") != "" {
			return 0, "", 0
		}
		value, _ := strconv.Atoi(number)
		return 3, strconv.Itoa(value), len(number)
	}
	if rest[0] == '"' || rest[0] == '\'' {
		return r.firstLiteral(rest)
	}
	if keyword := r.keyword.FindString(rest); keyword != "" {
		if !listed(keywordList, keyword[1:]) {
			return 0, "", 0
		}
		return 6, keyword[1:], len(keyword)
	}
	if operator := r.operator.FindString(rest); operator != "" {
		return 7, operator, len(operator)
	}
	return 0, "", 0
}

// firstLiteral is first where a delimiter comes first.
func (r tokenRules) firstLiteral(rest string) (int, string, int) {
	literal := r.literal.FindString(rest)
	if text, ok := r.texts.denoted(literal); ok {
		if len(text) > 120 {
			return 0, "", 0
		}
		return 4, text, len(literal)
	}
	text, ok := r.csets.denoted(literal)
	elements := []byte(text)
	slices.Sort(elements)
	elements = slices.Compact(elements)
	if !ok || len(elements) > 0 && elements[len(elements)-1] > 127 {
		return 0, "", 0
	}
	return 5, string(elements), len(literal)
}

// tokens returns what Lex should return.
func (r tokenRules) tokens(source string) ([]impl.Token, int) {
	if len(source) > maxSource {
		return nil, 1
	}
	var list []impl.Token
	line := 1
	for {
		gap := r.gap.FindString(source)
		source = source[len(gap):]
		feeds := strings.Count(gap, "\n")
		line += feeds
		if source == "" {
			return list, 0
		}
		kind, text, size := r.first(source)
		if kind == 0 {
			return nil, line
		}
		source = source[size:]
		token := impl.Token{Kind: kind, Text: text, Line: line}
		if feeds > 0 && len(list) > 0 && ends(list[len(list)-1]) && begins(token) {
			list = append(list, impl.Token{Kind: 7, Text: ";", Line: line - feeds})
		}
		list = append(list, token)
	}
}

// check compares Lex with the rules.
func (r tokenRules) check(t *testing.T, source string) {
	t.Helper()
	want, wantLine := r.tokens(source)
	got, line := impl.Lex(source)
	if !slices.Equal(got, want) || line != wantLine {
		t.Fatalf("Lex(%.200q) = %.400s, %d, want %.400s, %d", source, shown(got), line, shown(want), wantLine)
	}
}

// checkTexts reads the texts of the tokens of a source again, written with blanks between them. It reports whether they are short enough for that.
func checkTexts(t *testing.T, source string) bool {
	t.Helper()
	list, _ := impl.Lex(source)
	var texts []string
	for _, token := range list {
		texts = append(texts, impl.TokenText(token))
	}
	written := strings.Join(texts, " ")
	if len(written) > maxSource {
		return false
	}
	again, line := impl.Lex(written)
	same := func(a, b impl.Token) bool { return a.Kind == b.Kind && a.Text == b.Text }
	if line != 0 || !slices.EqualFunc(again, list, same) {
		t.Fatalf("the tokens of %.200q are %.400s, but those of their texts %.200q are %.400s, %d", source, shown(list), written, shown(again), line)
	}
	return true
}

func TestTokenConstants(t *testing.T) {
	kinds := []int{impl.TokenName, impl.TokenReserved, impl.TokenInteger, impl.TokenString, impl.TokenCset, impl.TokenKeyword, impl.TokenOperator}
	if !slices.Equal(kinds, []int{1, 2, 3, 4, 5, 6, 7}) || impl.MaxSource != maxSource || impl.MaxName != maxName {
		t.Errorf("the kinds are %d, MaxSource is %d, MaxName is %d", kinds, impl.MaxSource, impl.MaxName)
	}
}

// nearWords returns words, and texts that differ from them a little.
func nearWords(words []string) []string {
	var list []string
	for _, word := range words {
		list = append(list, word, word+" ", " "+word, word+"\n", word+"\x00", "&"+word, word+"s", "x"+word, word+word, word+"_", "_"+word, word+"1")
		list = append(list, strings.ToUpper(word), strings.ToUpper(word[:1])+word[1:], strings.Repeat(word, 5))
		for i := range len(word) {
			list = append(list, word[:i], word[i:], word[:i]+word[i+1:], word[:i]+"_"+word[i+1:], word[:i+1]+word[i:], word[:i]+" "+word[i:])
		}
	}
	return list
}

func TestReservedWordsAndKeywords(t *testing.T) {
	list := nearWords(wordsOf(reservedList, keywordList, "main self begin var for function true false nil goto in is and or xor ascii cset current host time"))
	list = append(list, textsOver("abcdefghijklmnopqrstuvwxyz", 3)...)
	list = append(list, "\xff", strings.Repeat("a", 100000), reservedList, keywordList, "if then", "null fail")
	for _, s := range list {
		if got := impl.IsReserved(s); got != listed(reservedList, s) {
			t.Errorf("IsReserved(%.80q) = %v", s, got)
		}
		if got := impl.IsKeyword(s); got != listed(keywordList, s) {
			t.Errorf("IsKeyword(%.80q) = %v", s, got)
		}
	}
}

func TestIsName(t *testing.T) {
	form := regexp.MustCompile(`\A[A-Za-z_][A-Za-z_0-9]{0,11}\z`)
	list := nearWords(wordsOf(reservedList, keywordList, "a Z _ a1 _1 __ aZ09_ abcdefghijkl ABCDEFGHIJKL a23456789012"))
	list = append(list, textsOver("azAZ_09 -@[`{/:\x00\xe9", 3)...)
	list = append(list, "\u00e9", "\u0430", "a\u00e9", "\uff41", "a\u0661", "a.b", "a-b", "a b", "a&b", "&null", "1", "1a", "0", "_0", "x'")
	for size := range 30 {
		list = append(list, strings.Repeat("a", size), strings.Repeat("Z", size), strings.Repeat("_", size), strings.Repeat("5", size), "b"+strings.Repeat("5", size))
	}
	for b := range 256 {
		one := bytesOf(byte(b))
		list = append(list, one, one+"a", "a"+one, "a"+one+"a", "1"+one, "abcdefghijk"+one, "abcdefghijkl"+one, one+"abcdefghijk", one+"abcdefghijkl")
	}
	list = append(list, strings.Repeat("a", 100000))
	for _, s := range list {
		if got := impl.IsName(s); got != (form.MatchString(s) && !listed(reservedList, s)) {
			t.Errorf("IsName(%.80q) = %v", s, got)
		}
	}
}

// The kinds and the texts are also such that Lex never returns them.
func TestBeginsAndEndsExpression(t *testing.T) {
	texts := wordsOf(reservedList, keywordList, operatorList, "x if2 Then 12 07 $ ` \" ' :=| ()")
	texts = append(texts, nearWords(wordsOf(beginningWords, endingWords))...)
	texts = append(texts, "", " ", "+ ", " (", "\n", "\x00", "\xff", beginningOperators, endingWords, strings.Repeat("(", 100000))
	for _, kind := range []int{math.MinInt, -7, -1, 0, 1, 2, 3, 4, 5, 6, 7, 8, 9, 15, 257, math.MaxInt} {
		for _, text := range texts {
			for _, line := range []int{0, 1, -5, math.MaxInt} {
				token := impl.Token{Kind: kind, Text: text, Line: line}
				if got := impl.BeginsExpression(token); got != begins(token) {
					t.Errorf("BeginsExpression(%.80s) = %v", shown([]impl.Token{token}), got)
				}
				if got := impl.EndsExpression(token); got != ends(token) {
					t.Errorf("EndsExpression(%.80s) = %v", shown([]impl.Token{token}), got)
				}
			}
		}
	}
}

func TestLexOrdinarySources(t *testing.T) {
	cases := [][2]string{
		{"x := 1 # one\ny", `name"x"1 operator":="1 integer"1"1 operator";"1 name"y"2`},
		{"x +\ny<-1", `name"x"1 operator"+"1 name"y"2 operator"<-"2 integer"1"2`},
		{"\"a\\n\" 'ba' &pos 007", `string"a\n"1 cset"ab"1 keyword"pos"1 integer"7"1`},
		{"procedure main()\nend", `reserved"procedure"1 name"main"1 operator"("1 operator")"1 reserved"end"2`},
		{"every write(1 to 3)", `reserved"every"1 name"write"1 operator"("1 integer"1"1 reserved"to"1 integer"3"1 operator")"1`},
		{"a.b[1:0]\\2", `name"a"1 operator"."1 name"b"1 operator"["1 integer"1"1 operator":"1 integer"0"1 operator"]"1 operator"\\"1 integer"2"1`},
		{"s?tab(upto('xy'))", `name"s"1 operator"?"1 name"tab"1 operator"("1 name"upto"1 operator"("1 cset"xy"1 operator")"1 operator")"1`},
		{"procedure p(a, b)\nlocal c\nc<->a|||:=b\nsuspend c\nfail\nend\n",
			`reserved"procedure"1 name"p"1 operator"("1 name"a"1 operator","1 name"b"1 operator")"1 reserved"local"2 name"c"2 operator";"2 ` +
				`name"c"3 operator"<->"3 name"a"3 operator"|||:="3 name"b"3 operator";"3 reserved"suspend"4 name"c"4 operator";"4 reserved"fail"5 reserved"end"6`},
		{"case x of {\n1 : return\ndefault : next\n}",
			`reserved"case"1 name"x"1 reserved"of"1 operator"{"1 integer"1"2 operator":"2 reserved"return"2 reserved"default"3 operator":"3 reserved"next"3 operator"}"4`},
		{"-x+-1", `operator"-"1 name"x"1 operator"+"1 operator"-"1 integer"1"1`},
		{"1-1", `integer"1"1 operator"-"1 integer"1"1`},
		{"1.5", `integer"1"1 operator"."1 integer"5"1`},
		{"a\"b\"'c'1", `name"a"1 string"b"1 cset"c"1 integer"1"1`},
		{"\"a\"\"b\"", `string"a"1 string"b"1`},
		{"''''", `cset""1 cset""1`},
		{"if2 iff If IF _if", `name"if2"1 name"iff"1 name"If"1 name"IF"1 name"_if"1`},
		{"null pos", `name"null"1 name"pos"1`},
	}
	for _, c := range cases {
		checkLex(t, c[0], c[1])
		checkTexts(t, c[0])
	}
}

func TestLexSourcesWithoutTokens(t *testing.T) {
	for _, source := range []string{"", " ", "\t", "\n", "\n\n\n", " \t\n \t", "#", "# $ \" ' & 1a", "#\n", "\n#\n#", "##", "# a\n\t# b\n", "#\x00\xff\r", strings.Repeat("\n", maxSource), "#" + strings.Repeat("\xff", maxSource-1)} {
		checkLex(t, source, "")
	}
}

func TestLexWords(t *testing.T) {
	for _, word := range wordsOf(reservedList) {
		checkLex(t, word, fmt.Sprintf("reserved%q1", word))
		checkLex(t, word+"1 "+word+"_", fmt.Sprintf(`name"%s1"1 name"%s_"1`, word, word))
		checkLex(t, "("+word+")", fmt.Sprintf(`operator"("1 reserved%q1 operator")"1`, word))
	}
	for _, name := range wordsOf("a Z _ __ _1 a1 a_1 x9y8 abcdefghijkl ____________ A12345678901 procedures endl", "null subject pos lcase ucase letters digits") {
		checkLex(t, name, fmt.Sprintf("name%q1", name))
		checkLex(t, "\n"+name+"\t", fmt.Sprintf("name%q2", name))
	}
	for _, wrong := range []string{"abcdefghijklm", "_____________", "A123456789012", "procedureprocedure", "endendendendend", strings.Repeat("a", maxSource-3)} {
		checkLexError(t, wrong, 1)
		checkLexError(t, "\n"+wrong+"\n$", 2)
	}
}

func TestLexIntegers(t *testing.T) {
	cases := map[string]string{
		"0": "0", "7": "7", "10": "10", "007": "7", "00": "0", "000000000000": "0", "000000000001": "1", "012345678901": "12345678901",
		"100000000000": "100000000000", "123456789012": "123456789012", "999999999999": "999999999999",
	}
	for source, want := range cases {
		checkLex(t, source, fmt.Sprintf("integer%q1", want))
		checkLex(t, "-"+source+"\n+", fmt.Sprintf(`operator"-"1 integer%q1 operator";"1 operator"+"2`, want))
	}
	for _, wrong := range []string{"0000000000000", "0000000000001", "1234567890123", "9999999999999", "1000000000000", "18446744073709551617", strings.Repeat("0", maxSource-4),
		"1a", "0x10", "1_000", "1_", "0_", "1e3", "12345678901a", "1B", "9Z", "1end", "00if"} {
		checkLexError(t, wrong, 1)
		checkLexError(t, "x\n"+wrong+"\n$", 2)
	}
}

func TestLexKeywords(t *testing.T) {
	for _, word := range wordsOf(keywordList) {
		checkLex(t, "&"+word, fmt.Sprintf("keyword%q1", word))
		checkLex(t, "&&"+word+"&", fmt.Sprintf(`operator"&"1 keyword%q1 operator"&"1`, word))
		checkLex(t, "&"+word+"1", fmt.Sprintf(`keyword%q1 integer"1"1`, word))
		checkLex(t, "&"+word+"&"+word, fmt.Sprintf(`keyword%q1 keyword%q1`, word, word))
		for _, wrong := range []string{"&" + word + "_", "&_" + word, "&" + word + "s", "&" + word[:len(word)-1], "&" + strings.ToUpper(word), "&" + word + word, "&" + word + "1a", "&" + word[:1] + "1" + word[1:]} {
			checkLexError(t, wrong, 1)
			checkLexError(t, "&\n\n"+wrong+"\n&x", 3)
		}
	}
	cases := [][2]string{
		{"&", `operator"&"1`},
		{"& ", `operator"&"1`},
		{"& null", `operator"&"1 name"null"1`},
		{"&\nfail", `operator"&"1 reserved"fail"2`},
		{"&#\nx", `operator"&"1 name"x"2`},
		{"&1", `operator"&"1 integer"1"1`},
		{"&:=&:&=", `operator"&"1 operator":="1 operator"&"1 operator":"1 operator"&"1 operator"="1`},
		{"&&&", `operator"&"1 operator"&"1 operator"&"1`},
		{"&\"x\"&'x'", `operator"&"1 string"x"1 operator"&"1 cset"x"1`},
	}
	for _, c := range cases {
		checkLex(t, c[0], c[1])
	}
	for _, wrong := range []string{"&x", "&_", "a&b", "&if", "&end", "&nil", "&main", "&Null", "&A", "&z", "&Z", "&a", "&letter", "&" + strings.Repeat("a", maxSource-1)} {
		checkLexError(t, wrong, 1)
	}
}

func TestLexOperators(t *testing.T) {
	for _, operator := range wordsOf(operatorList) {
		checkLex(t, operator, fmt.Sprintf("operator%q1", operator))
		checkLex(t, "1"+operator+"2", fmt.Sprintf(`integer"1"1 operator%q1 integer"2"1`, operator))
		// No operator both ends an expression and begins one.
		checkLex(t, operator+"\n"+operator+"#", fmt.Sprintf("operator%q1 operator%q2", operator, operator))
	}
	cases := map[string]string{
		"|||:=": "|||:=", "||||:=": "||| | :=", "|||:": "||| :", "||||": "||| |", "||||||": "||| |||", "|||||:=": "||| ||:=", "||:": "|| :", "|:=": "| :=",
		"~====": "~=== =", "~===": "~===", "~==": "~==", "~= =": "~= =", "~=": "~=", "=====": "=== ==", "====": "=== =",
		"<->": "<->", "<-->": "<- ->", "<<-": "<< -", "<<=": "<<=", "<<<": "<< <", "<<==": "<<= =", "<=>": "<= >", "->>": "-> >", "-->": "-- >", "<-:=": "<- :=",
		":=:": ":=:", ":=::": ":=: :", ":=:=": ":=: =", "::=": ": :=", ":==": ":= =", ":=:=:": ":=: = :", ": =": ": =",
		"+:=:": "+:= :", "++:=": "++:=", "+++:=": "++ +:=", "++:": "++ :", "+++": "++ +", "+:": "+ :", "---": "-- -", "---:=": "-- -:=", "***:=": "** *:=", "--:": "-- :",
		"/:": "/ :", "/:=": "/:=", "//:=": "/ /:=", "%:=": "%:=", "^:=": "^:=", "?:=": "? :=", "???": "?? ?", "=>>": "=> >", "==>": "== >", ">=>": ">= >", ">>=>": ">>= >", "=>=": "=> =",
		".>": ".>", ".>>": ".> >", "..>": ". .>", ".||": ".| |", ".|:=": ".| :=", ".|||:=": ".| ||:=", "|.|": "| .|", "!:=": "! :=", "@.": "@ .", "\\\\": "\\ \\", "/\\": "/ \\",
		"()[]{},;:": "( ) [ ] { } , ; :", "(((": "( ( (", ";;": "; ;", ",,": ", ,",
	}
	for source, want := range cases {
		var parts []string
		for _, operator := range strings.Fields(want) {
			parts = append(parts, fmt.Sprintf("operator%q1", operator))
		}
		checkLex(t, source, strings.Join(parts, " "))
	}
}

// All pairs of operators, and all short texts of their bytes, without a blank.
func TestLexOperatorsWithoutBlanks(t *testing.T) {
	rules := newTokenRules()
	operators := wordsOf(operatorList)
	for _, a := range operators {
		for _, b := range operators {
			rules.check(t, a+b)
			rules.check(t, a+b+a)
		}
	}
	for _, source := range textsOver(`|:=+-*/%^<>~&!?@.\`, 3) {
		rules.check(t, source)
	}
	for _, source := range textsOver(`|:=~<->.`, 5) {
		rules.check(t, source)
	}
}

func TestLexStrings(t *testing.T) {
	long, some := strings.Repeat("a", 120), strings.Repeat(`\x00\n\"`, 40)
	cases := map[string]string{
		`""`: "", `"a"`: "a", `"it's"`: "it's", `"\'"`: "'", `"'"`: "'", `"''"`: "''", `"\""`: "\"", `"\"\""`: "\"\"", `"a\"b"`: "a\"b", `"\\"`: "\\", `"\\\\"`: "\\\\", `"\\\""`: "\\\"",
		`"a\\"`: "a\\", `"\n"`: "\n", `"\t"`: "\t", `"\n\t\n"`: "\n\t\n", `"a\n"`: "a\n", `"\x00"`: "\x00", `"\xff"`: "\xff", `"\x22"`: "\"", `"\x0a"`: "\n", `"\x41"`: "A",
		`"# no comment"`: "# no comment", `" ~"`: " ~", `"&null"`: "&null", `"if"`: "if", `"007"`: "007",
		`"` + long + `"`: long, `"` + some + `"`: strings.Repeat("\x00\n\"", 40), `"` + long[:119] + `\n"`: long[:119] + "\n", `"` + strings.Repeat(`\xff`, 120) + `"`: strings.Repeat("\xff", 120),
	}
	for literal, text := range cases {
		want := fmt.Sprintf("string%q", text)
		checkLex(t, literal, want+"1")
		checkLex(t, "\n"+literal+"\n"+literal, want+`2 operator";"2 `+want+"3")
		checkLex(t, literal+literal, want+"1 "+want+"1")
		checkLex(t, literal+"'\"'"+literal, want+`1 cset"\""1 `+want+"1")
	}
	for _, wrong := range []string{long + "a", long + `\n`, some + "a", strings.Repeat(`\xff`, 121), strings.Repeat("a", 5000), strings.Repeat(`\\`, 121)} {
		checkLexError(t, `"`+wrong+`"`, 1)
		checkLexError(t, "x\n\""+wrong+"\"\n$", 2)
	}
}

func TestLexCsets(t *testing.T) {
	all := quotedBytes(everyByte()[:128], '\'')
	cases := map[string]string{
		`''`: "", `'a'`: "a", `'cab'`: "abc", `'banana'`: "abn", `'"'`: "\"", `'""'`: "\"", `'\"'`: "\"", `'\''`: "'", `'\'"'`: "\"'", `'a\'b'`: "'ab", `'\\'`: "\\", `'\\\''`: "'\\", `'\\\\'`: "\\",
		`'\n\t'`: "\t\n", `'a\n'`: "\na", `'\x7f'`: "\x7f", `'\x7f\x00\x7f'`: "\x00\x7f", `'~ '`: " ~", `'# no'`: " #no", `'z\x41'`: "Az", `'9876543210'`: "0123456789",
		all: everyByte()[:128], `'` + strings.Repeat("ab", 2900) + `'`: "ab",
	}
	for literal, text := range cases {
		want := fmt.Sprintf("cset%q", text)
		checkLex(t, literal, want+"1")
		checkLex(t, "\n"+literal+"\n\"'\"", want+`2 operator";"2 string"'"3`)
	}
	for _, wrong := range []string{`'\x80'`, `'\xff'`, `'a\x80'`, `'\x80a'`, `'\x7f\x80'`, all[:len(all)-1] + `\x80'`} {
		checkLexError(t, wrong, 1)
		checkLexError(t, "\n\n"+wrong+"\n$", 3)
	}
}

func TestLexRejectsLiterals(t *testing.T) {
	for _, delimiter := range []string{`"`, `'`} {
		other := map[string]string{`"`: `'`, `'`: `"`}[delimiter]
		for _, inside := range wrongInside() {
			checkLexError(t, delimiter+inside+delimiter, 1)
			checkLexError(t, "x # y\n"+delimiter+inside+delimiter+"\n$", 2)
			checkLexError(t, other+other+"\n\n"+delimiter+"a"+inside+delimiter+" x", 3)
		}
		// Literals without an end.
		for _, inside := range []string{"", "a", " ", `\\`, `\` + delimiter, `\\\` + delimiter, `a\` + delimiter + ` b`, other, other + other, `\` + other, "# a", `\n`, `\x41`, "a\n", "\n\n" + other, strings.Repeat("a", 5000)} {
			checkLexError(t, delimiter+inside, 1)
			checkLexError(t, "\n\n"+delimiter+inside, 3)
			checkLexError(t, delimiter+delimiter+"\n"+delimiter+inside, 2)
			checkLexError(t, delimiter+delimiter+delimiter+inside, 1)
		}
	}
	// Both delimiters of a literal are the same.
	for _, wrong := range []string{`"a'`, `'a"`, `"'`, `'"`, `"a' 'b`, "\"a\n\"", "'a\n'", "\"\n", "\"a\n\n\nb\" $"} {
		checkLexError(t, wrong, 1)
		checkLexError(t, " \t\n"+wrong, 2)
	}
}

func TestLexGaps(t *testing.T) {
	for _, gap := range []string{" ", "\t", "  ", "\t \t", "\n", "\n\n", " \n ", "#\n", "# a b\n", "#\n#\n", "\n# \" ' $ \xff\x00\n", "## ## \n\t", "#\r\n", "\n \n \n"} {
		line := 1 + strings.Count(gap, "\n")
		want := fmt.Sprintf(`name"a"1 name"b"%d`, line)
		if line > 1 {
			want = fmt.Sprintf(`name"a"1 operator";"1 name"b"%d`, line)
		}
		checkLex(t, "a"+gap+"b", want)
		checkLex(t, "a"+gap+"b"+gap, want)
		checkLex(t, gap+",", fmt.Sprintf(`operator","%d`, line))
		checkLex(t, ","+gap+",", fmt.Sprintf(`operator","1 operator","%d`, line))
	}
	checkLex(t, "a#b\nc", `name"a"1 operator";"1 name"c"2`)
	checkLex(t, "a # b", `name"a"1`)
	checkLex(t, "a#", `name"a"1`)
	checkLex(t, "a # b\n", `name"a"1`)
	checkLex(t, "1#2\n#3\n4", `integer"1"1 operator";"1 integer"4"3`)
	checkLex(t, "+#-\n+", `operator"+"1 operator"+"2`)
}

// sampleTokens are source forms of tokens of every kind.
func sampleTokens() []string {
	return append(wordsOf(reservedList, operatorList), "x", "_1", "0", "12", `""`, `"a b"`, `"#"`, `''`, `'a'`, `'#'`, "&null", "&fail", "&pos")
}

// All pairs of tokens, with and without line feeds between them.
func TestLexSemicolons(t *testing.T) {
	var forms []impl.Token
	for _, source := range sampleTokens() {
		list, line := impl.Lex(source)
		if len(list) != 1 || line != 0 {
			t.Fatalf("Lex(%q) = %s, %d", source, shown(list), line)
		}
		forms = append(forms, list[0])
	}
	inserted := 0
	for i, source := range sampleTokens() {
		for k, after := range sampleTokens() {
			for _, gap := range []string{" ", "\t\t", "\n", "\n\n\n", " # a\n", "#\n\t#b;\n"} {
				first, second := forms[i], forms[k]
				feeds := strings.Count(gap, "\n")
				first.Line, second.Line = 2, 2+feeds
				want := []impl.Token{first, second}
				if feeds > 0 && ends(first) && begins(second) {
					want = []impl.Token{first, {Kind: impl.TokenOperator, Text: ";", Line: 2}, second}
					inserted++
				}
				checkLex(t, "\n"+source+gap+after+"\n# end", shown(want))
			}
		}
	}
	// Each of the 13 operands, 5 words and 3 operators before each of the 13 operands, 14 words and 16 operators, with each of the 4 gaps that have a line feed.
	if inserted != (13+5+3)*(13+14+16)*4 {
		t.Errorf("%d semicolons were inserted", inserted)
	}
}

func TestLexSemicolonsInPrograms(t *testing.T) {
	cases := [][2]string{
		{"a\nb\nc", `name"a"1 operator";"1 name"b"2 operator";"2 name"c"3`},
		{"a;\nb", `name"a"1 operator";"1 name"b"2`},
		{"a\n;b", `name"a"1 operator";"2 name"b"2`},
		{"\na\n", `name"a"2`},
		{"a b", `name"a"1 name"b"1`},
		{"a\n\n\nb", `name"a"1 operator";"1 name"b"4`},
		{"f\n(x)\n[y]\n{z}", `name"f"1 operator";"1 operator"("2 name"x"2 operator")"2 operator";"2 operator"["3 name"y"3 operator"]"3 operator";"3 operator"{"4 name"z"4 operator"}"4`},
		{"(\na\n)\n", `operator"("1 name"a"2 operator")"3`},
		{"return\nx", `reserved"return"1 operator";"1 name"x"2`},
		{"return x", `reserved"return"1 name"x"1`},
		{"a\n-b", `name"a"1 operator";"1 operator"-"2 name"b"2`},
		{"a\n:=b", `name"a"1 operator":="2 name"b"2`},
		{"a\n||b", `name"a"1 operator"||"2 name"b"2`},
		{"a\n|b", `name"a"1 operator";"1 operator"|"2 name"b"2`},
		{"a\n& b", `name"a"1 operator"&"2 name"b"2`},
		{"a\n&pos", `name"a"1 operator";"1 keyword"pos"2`},
		{"a\n?b", `name"a"1 operator"?"2 name"b"2`},
		{"if a\nthen b\nelse c", `reserved"if"1 name"a"1 reserved"then"2 name"b"2 reserved"else"3 name"c"3`},
		{"if\na", `reserved"if"1 name"a"2`},
		{"a\nif b", `name"a"1 operator";"1 reserved"if"2 name"b"2`},
		{"next\nbreak\nfail\nsuspend\nreturn", `reserved"next"1 operator";"1 reserved"break"2 operator";"2 reserved"fail"3 operator";"3 reserved"suspend"4 operator";"4 reserved"return"5`},
		{"a\nend\nb", `name"a"1 reserved"end"2 name"b"3`},
		{"end\nprocedure", `reserved"end"1 reserved"procedure"2`},
	}
	for _, c := range cases {
		checkLex(t, c[0], c[1])
	}
	checkLexError(t, "a\n&b", 2)
}

// wrongTokens are texts with which no source goes on, whatever follows behind a blank.
func wrongTokens() []string {
	list := []string{"1a", "12345678901234", "a234567890123", "&x", "&_", "&nulls", `"\q"`, `'\q'`, `"\x4"`, `'\x80'`, "\"\x00\"", "'\xff'", "\"\t\"", `"\xAB"`, "$", "`", "\r", "\v", "\f", "\x00", "\x1f", "\x7f", "\x80", "\xc3\xa9", "\xff", "\u2028", "\u00a0", "\ufeff"}
	return append(list, "\""+strings.Repeat("x", 121)+"\"")
}

func TestLexFirstError(t *testing.T) {
	befores := []string{"", " ", "\t", "a ", "(", "+", "\n", "\n\n\n", "a\n", "a\n\n", "a\nb\n", "# $\n", "a # 1a\n\n ", "\"\" ''\n", "x := 1\ny := \"a\\n\"\n", ";\n;\n"}
	afters := []string{"", " ", "\n", " b", "\nb", " $", "\n$", "\n\n1a \"", "#", " # b\n"}
	for _, wrong := range wrongTokens() {
		for _, before := range befores {
			for _, after := range afters {
				checkLexError(t, before+wrong+after, 1+strings.Count(before, "\n"))
			}
		}
	}
}

// Every byte, at many places.
func TestLexEveryByte(t *testing.T) {
	rules := newTokenRules()
	for b := range 256 {
		one := bytesOf(byte(b))
		for _, source := range []string{one, one + one, "a" + one, one + "a", "a" + one + "b", "1" + one, one + "1", "&" + one, "&n" + one, "&null" + one, "\"" + one + "\"", "'" + one + "'", `"\` + one + `"`, `'\` + one + `'`,
			`"a` + one, "+" + one, ":" + one + "=", "#" + one + "\nx", "x\n" + one, one + "\nx", "x\n" + one + "\ny", "\n" + one + " $", ")" + one + "("} {
			rules.check(t, source)
		}
		for c := range 256 {
			rules.check(t, one+bytesOf(byte(c)))
			rules.check(t, "x"+one+"\n"+bytesOf(byte(c))+"y")
		}
	}
}

func TestLexShortSourcesByRules(t *testing.T) {
	rules := newTokenRules()
	for _, source := range textsOver("a1 \n#\"'\\&+;)", 4) {
		rules.check(t, source)
		checkTexts(t, source)
	}
	for _, source := range textsOver("if\n&\"x\\", 5) {
		rules.check(t, source)
	}
	for _, source := range textsOver(`"'\n`, 7) {
		rules.check(t, source)
	}
}

// randomSource puts pieces together, with or without gaps.
func randomSource(random *rand.Rand, pieces []string, gaps []string) string {
	var source strings.Builder
	for range random.IntN(40) {
		source.WriteString(pieces[random.IntN(len(pieces))])
		source.WriteString(gaps[random.IntN(len(gaps))])
	}
	return source.String()
}

func TestLexRandomSourcesByRules(t *testing.T) {
	rules := newTokenRules()
	random := rand.New(rand.NewPCG(5, 5))
	pieces := append(sampleTokens(), "abc", "007", `"\x00\"'"`, `'\'"z\\'`, "# x", `"a\\"`, "letters", "999999999999")
	gaps := []string{"", " ", " ", "\n", "\n", "\t#\n", "\n\n"}
	for range 5000 {
		source := randomSource(random, pieces, gaps)
		rules.check(t, source)
		checkTexts(t, source)
	}
	rejected := 0
	for range 5000 {
		source := randomSource(random, append(wrongTokens()[:10], pieces...), gaps)
		rules.check(t, source)
		if _, line := impl.Lex(source); line > 0 {
			rejected++
		}
	}
	if rejected < 1000 || rejected > 4900 {
		t.Errorf("%d of the sources are rejected", rejected)
	}
}

func TestTextsOfTokensGiveTheSameTokens(t *testing.T) {
	sources := append(sampleTokens(), reservedList, operatorList, "&"+strings.Join(wordsOf(keywordList), " &"), "a\nb\n(c)\n\n1", "007 0 000000000000 999999999999")
	all := everyByte()
	sources = append(sources, impl.QuoteText(all[:120]), impl.QuoteText(all[120:240]), impl.QuoteText(all[136:]), quotedBytes(all[:128], '\''), quotedBytes(all[:128], '\'')+"\n"+impl.QuoteText(all[:120]))
	for b := range 256 {
		one := bytesOf(byte(b))
		sources = append(sources, impl.QuoteText(one), impl.QuoteText("\\"+one+"\""))
		if b < 128 {
			sources = append(sources, quotedBytes(one, '\''), quotedBytes("z"+one+"'\\", '\''))
		}
	}
	for _, source := range sources {
		if list, line := impl.Lex(source); len(list) == 0 || line != 0 || !checkTexts(t, source) {
			t.Errorf("Lex(%.200q) = %.400s, %d", source, shown(list), line)
		}
	}
	if !checkTexts(t, strings.Repeat("(", 3000)) || !checkTexts(t, strings.Repeat("a\n", 1500)) || checkTexts(t, strings.Repeat("(", 3001)) {
		t.Error("the texts of 3000 brackets or 1500 lines should just be short enough")
	}
}

// The kinds and the texts are also such that Lex never returns them.
func TestTokenText(t *testing.T) {
	cases := []struct {
		kind int
		text string
		want string
	}{
		{impl.TokenName, "x", "x"}, {impl.TokenName, "", ""}, {impl.TokenName, "a b\n\"", "a b\n\""}, {impl.TokenName, "if", "if"},
		{impl.TokenReserved, "if", "if"}, {impl.TokenReserved, "x\xff", "x\xff"}, {impl.TokenReserved, "", ""},
		{impl.TokenInteger, "7", "7"}, {impl.TokenInteger, "007", "007"}, {impl.TokenInteger, "-", "-"}, {impl.TokenInteger, "", ""},
		{impl.TokenString, "", `""`}, {impl.TokenString, "a\n\"'\\", `"a\n\"'\\"`}, {impl.TokenString, "\x00\x7f\xff", `"\x00\x7f\xff"`}, {impl.TokenString, strings.Repeat("a", 500), `"` + strings.Repeat("a", 500) + `"`},
		{impl.TokenCset, "", `''`}, {impl.TokenCset, "abc", `'abc'`}, {impl.TokenCset, "banana", `'abn'`}, {impl.TokenCset, "\"'\\\n\x7f", `'\n"\'\\\x7f'`}, {impl.TokenCset, everyByte()[:128], quotedBytes(everyByte()[:128], '\'')},
		{impl.TokenCset, "\x80", `''`}, {impl.TokenCset, "abc\x80", `''`}, {impl.TokenCset, "\xffabc", `''`}, {impl.TokenCset, everyByte(), `''`}, {impl.TokenCset, "\u00e9", `''`}, {impl.TokenCset, strings.Repeat("ba", 5000), `'ab'`},
		{impl.TokenKeyword, "null", "&null"}, {impl.TokenKeyword, "", "&"}, {impl.TokenKeyword, "&x y", "&&x y"}, {impl.TokenKeyword, "\x80\"", "&\x80\""},
		{impl.TokenOperator, "|||:=", "|||:="}, {impl.TokenOperator, "", ""}, {impl.TokenOperator, "$ \n", "$ \n"},
	}
	for _, kind := range []int{math.MinInt, -4, -1, 0, 8, 9, 12, 260, math.MaxInt} {
		for _, text := range []string{"", "x", "\"", "a b\n", "\x80\xff", "ba"} {
			cases = append(cases, struct {
				kind int
				text string
				want string
			}{kind, text, text})
		}
	}
	for _, c := range cases {
		for _, line := range []int{0, 1, -1, math.MinInt} {
			if got := impl.TokenText(impl.Token{Kind: c.kind, Text: c.text, Line: line}); got != c.want {
				t.Errorf("TokenText of kind %d and text %.80q is %.80q, want %.80q", c.kind, c.text, got, c.want)
			}
		}
	}
}

func TestLexLimit(t *testing.T) {
	rules := newTokenRules()
	for _, unit := range []string{"(", "a ", "a\n", "\n", " ", "#", "#\n", "\"a\"", "'\\''", "&null", "1", "12 ", "abc+\n", "$\n", ";", "|", "|||:=", "\"\n", "\xff", "\"\\", "'a", "x\n)"} {
		for _, start := range []string{"", "\n\n", "x\n", "\n\n$ ", "#"} {
			for _, size := range []int{maxSource - 1, maxSource, maxSource + 1} {
				source := (start + strings.Repeat(unit, size))[:size]
				rules.check(t, source)
			}
			checkLexError(t, start+strings.Repeat(unit, maxSource+1), 1)
		}
	}
	if list, line := impl.Lex(strings.Repeat("(", maxSource)); len(list) != maxSource || line != 0 {
		t.Errorf("6000 brackets give %d tokens, %d", len(list), line)
	}
	if list, line := impl.Lex(strings.Repeat("a\n", maxSource/2)); len(list) != maxSource-1 || line != 0 || list[maxSource-2].Line != maxSource/2 {
		t.Errorf("3000 lines give %d tokens, %d", len(list), line)
	}
	checkLexError(t, strings.Repeat("\n", maxSource-1)+"$", maxSource)
	checkLexError(t, strings.Repeat("\n", maxSource)+"$", 1)
	checkLexError(t, "\n\n\n$"+strings.Repeat(" ", maxSource-4), 4)
	checkLexError(t, "\n\n\n$"+strings.Repeat(" ", maxSource-3), 1)
	checkLexError(t, strings.Repeat(" ", 10*maxSource), 1)
}

// The bytes of the argument are changed after the call: a token that shares them would change too.
func TestTokensShareNoMemory(t *testing.T) {
	source := []byte("name while 123 \"text\" 'text' &letters |||:= x\ny")
	plain := string(source)
	text := unsafe.String(&source[0], len(source))
	list, line := impl.Lex(text)
	want := shown(list)
	if string(source) != plain || line != 0 || len(list) != 10 {
		t.Fatalf("Lex(%q) = %s, %d", source, want, line)
	}
	again, _ := impl.Lex(text)
	again[0].Text, again[1].Line = "other", -1
	clear(source)
	if got := shown(list); got != want {
		t.Errorf("the tokens share memory with the source or with other tokens: %s", got)
	}
	for kind := range 9 {
		bytes := []byte("letters")
		form := impl.TokenText(impl.Token{Kind: kind, Text: unsafe.String(&bytes[0], len(bytes))})
		before := strings.Clone(form)
		clear(bytes)
		if form != before {
			t.Errorf("the text of a token of kind %d shares memory with the token", kind)
		}
	}
}

func TestTokenFunctionsKeepNoState(t *testing.T) {
	for range 3 {
		checkLex(t, "a\nb", `name"a"1 operator";"1 name"b"2`)
		checkLexError(t, "\n\n\"a", 3)
		checkLex(t, "b", `name"b"1`)
		checkLexError(t, strings.Repeat(" ", maxSource+1), 1)
		checkLex(t, "", "")
		checkLex(t, "a # b", `name"a"1`)
		if !impl.IsName("a") || impl.IsName("if") || !impl.IsReserved("if") || impl.IsReserved("a") || !impl.IsKeyword("pos") || impl.IsKeyword("if") || impl.TokenText(impl.Token{Kind: impl.TokenKeyword, Text: "pos"}) != "&pos" {
			t.Error("a function depends on earlier calls")
		}
	}
}
