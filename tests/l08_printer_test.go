package tests

import (
	"fmt"
	"maps"
	"math"
	"math/rand/v2"
	"reflect"
	"slices"
	"strconv"
	"strings"
	"testing"
	"unsafe"

	"loop.example/g03106/impl"
)

// ownLevelOf is the own level of a node by the list of chapter 8.
func ownLevelOf(e impl.Expr) int {
	switch e.Kind {
	case impl.ExprBinary:
		return binaryLevels[e.Text]
	case impl.ExprTo:
		return 4
	case impl.ExprUnary, impl.ExprNot:
		return 12
	}
	if listed("if while until every repeat case return suspend break create", nodeWords[e.Kind]) {
		return 0
	}
	return 13
}

// piecesOf is the form of a node by chapter 8: its texts, and for each kid in turn the level that it requires.
func piecesOf(e impl.Expr) []any {
	kids := len(e.Kids)
	// Kids with something between them, all of the level 0.
	many := func(before string, count int, between string, after string) []any {
		pieces := []any{before}
		for range count {
			pieces = append(pieces, 0, between)
		}
		return append(pieces[:max(1, len(pieces)-1)], after)
	}
	level := binaryLevels[e.Text]
	switch e.Kind {
	case impl.ExprInteger:
		return []any{strconv.Itoa(e.Number)}
	case impl.ExprString:
		return []any{quotedBytes(e.Text, '"')}
	case impl.ExprCset:
		return []any{quotedBytes(e.Text, '\'')}
	case impl.ExprName:
		return []any{e.Text}
	case impl.ExprKeyword:
		return []any{"&" + e.Text}
	case impl.ExprDefer:
		return []any{"defer " + e.Text}
	case impl.ExprList:
		return many("[", kids, ", ", "]")
	case impl.ExprMutual:
		return many("(", kids, ", ", ")")
	case impl.ExprBlock:
		return many("{", kids, "; ", "}")
	case impl.ExprCall:
		return append([]any{13}, many("(", kids-1, ", ", ")")...)
	case impl.ExprIndex:
		return []any{13, "[", 0, "]"}
	case impl.ExprSection:
		return []any{13, "[", 1, " : ", 0, "]"}
	case impl.ExprField:
		return []any{13, "." + e.Text}
	case impl.ExprUnary:
		return []any{e.Text, 12}
	case impl.ExprNot:
		return []any{"not ", 12}
	case impl.ExprBinary:
		if level == 3 || level == 10 {
			return []any{level + 1, " " + e.Text + " ", level}
		}
		return []any{level, " " + e.Text + " ", level + 1}
	case impl.ExprTo:
		return []any{4, " to ", 5, " by ", 5}[:2*kids-1]
	case impl.ExprIf:
		return []any{"if ", 1, " then ", 1, " else ", 1}[:2*kids]
	case impl.ExprCase:
		return caseAsPieces(e)
	}
	return []any{nodeWords[e.Kind], " ", 1, " do ", 1}[:1+2*kids]
}

// caseAsPieces is piecesOf for a case.
func caseAsPieces(e impl.Expr) []any {
	pieces := []any{"case ", 1, " of {"}
	pairs := (len(e.Kids) - 1) / 2
	for i := range pairs {
		pieces = append(pieces, 1, " : ", 1)
		if i+1 < pairs || e.Number == 1 {
			pieces = append(pieces, "; ")
		}
	}
	if e.Number == 1 {
		pieces = append(pieces, "default : ", 1)
	}
	return append(pieces, "}")
}

// printedForm is PrintExpression by definition, for a valid tree of any size.
func printedForm(e impl.Expr) string {
	text, next := "", 0
	for _, piece := range piecesOf(e) {
		required, isLevel := piece.(int)
		if !isLevel {
			text += piece.(string)
			continue
		}
		kid := e.Kids[next]
		next++
		if ownLevelOf(kid) < required || e.Kind == impl.ExprUnary && kid.Kind == impl.ExprUnary {
			text += "(" + printedForm(kid) + ")"
		} else {
			text += printedForm(kid)
		}
	}
	return text
}

// printedUnit is PrintUnit by definition, for a valid unit of any size.
func printedUnit(u impl.Unit) string {
	var text strings.Builder
	for _, r := range u.Records {
		fmt.Fprintf(&text, "record %s(%s)\n", r.Name, strings.Join(r.Fields, ", "))
	}
	if len(u.Globals) > 0 {
		fmt.Fprintf(&text, "global %s\n", strings.Join(u.Globals, ", "))
	}
	for _, p := range u.Procedures {
		fmt.Fprintf(&text, "procedure %s(%s)\n", p.Name, strings.Join(p.Params, ", "))
		if len(p.Locals) > 0 {
			fmt.Fprintf(&text, "local %s;\n", strings.Join(p.Locals, ", "))
		}
		for _, statement := range p.Body.Kids {
			fmt.Fprintf(&text, "%s;\n", printedForm(statement))
		}
		text.WriteString("end\n")
	}
	return text.String()
}

// checkPrint compares the form of a tree with its definition and expects that it is parsed as the tree (P8), or expects false for a tree that is not valid or too long. It returns the form.
func checkPrint(t *testing.T, e impl.Expr) string {
	t.Helper()
	before := copiedTree(e)
	want, accepted := "", followRules(e) && countOf(e) <= maxNodes && depthOf(e) <= maxDepth
	if accepted {
		want = printedForm(e)
		accepted = len(want) <= maxSource
	}
	text, ok := impl.PrintExpression(e)
	checkText(t, fmt.Sprintf("PrintExpression(%.300s)", form(e)), text, ok, want, accepted)
	if !reflect.DeepEqual(e, before) {
		t.Fatalf("%.300s was changed to %.300s", linedForm(before), linedForm(e))
	}
	if !ok {
		return ""
	}
	again, line := parsedExpression(t, text)
	if line != 0 || !sameTrees(linelessTree(again), linelessTree(e)) {
		t.Fatalf("%.300q, the form of %.300s, gives %.300s, %d", text, form(e), form(again), line)
	}
	if twice, ok := impl.PrintExpression(again); twice != text || !ok {
		t.Fatalf("%.300q is printed as %.300q, %v", text, twice, ok)
	}
	return text
}

// checkPrintUnit is checkPrint for a unit.
func checkPrintUnit(t *testing.T, u impl.Unit) string {
	t.Helper()
	before := copiedUnit(u)
	want, accepted := "", followUnitRules(u)
	for _, p := range u.Procedures {
		accepted = accepted && countOf(p.Body) <= maxNodes && depthOf(p.Body) <= maxDepth
	}
	if accepted {
		want = printedUnit(u)
		accepted = len(want) <= maxSource
	}
	text, ok := impl.PrintUnit(u)
	checkText(t, fmt.Sprintf("PrintUnit(%.300s)", unitForm(u)), text, ok, want, accepted)
	if !reflect.DeepEqual(u, before) {
		t.Fatalf("%.300s was changed to %.300s", unitForm(before), unitForm(u))
	}
	if !ok {
		return ""
	}
	again, line := parsedUnit(t, text)
	if line != 0 || !sameUnits(linelessUnit(again), linelessUnit(u)) {
		t.Fatalf("%.300q, the form of %.300s, gives %.300s, %d", text, unitForm(u), unitForm(again), line)
	}
	if twice, ok := impl.PrintUnit(again); twice != text || !ok {
		t.Fatalf("%.300q is printed as %.300q, %v", text, twice, ok)
	}
	return text
}

// checkForm expects the form of a tree letter by letter.
func checkForm(t *testing.T, e impl.Expr, want string) {
	t.Helper()
	if got := checkPrint(t, e); got != want {
		t.Errorf("PrintExpression(%.300s) = %.600q, want %.600q", form(e), got, want)
	}
}

// checkRefused expects false, and with it the empty text, for a tree that is not valid, alone and in a procedure.
func checkRefused(t *testing.T, e impl.Expr) {
	t.Helper()
	if text, ok := impl.PrintExpression(e); text != "" || ok {
		t.Fatalf("PrintExpression(%.300s) = %.300q, %v", fmt.Sprint(e), text, ok)
	}
	u := impl.Unit{Globals: []string{"g"}, Procedures: []impl.Procedure{{Name: "p", Body: treeOf(impl.ExprBlock, "", leafNode(0), e)}, {Name: "q", Body: treeOf(impl.ExprBlock, "")}}}
	if text, ok := impl.PrintUnit(u); text != "" || ok {
		t.Fatalf("PrintUnit of a body with %.300s is %.300q, %v", fmt.Sprint(e), text, ok)
	}
}

// treeOf is a node of a kind with a text and kids.
func treeOf(kind int, text string, kids ...impl.Expr) impl.Expr {
	return impl.Expr{Kind: kind, Text: text, Kids: kids}
}

// nameOf is the tree of a name.
func nameOf(name string) impl.Expr {
	return treeOf(impl.ExprName, name)
}

// integerOf is the tree of an integer.
func integerOf(number int) impl.Expr {
	return impl.Expr{Kind: impl.ExprInteger, Number: number}
}

// caseOf is the tree of a case; number is 1 if the last kid is a default.
func caseOf(number int, kids ...impl.Expr) impl.Expr {
	return impl.Expr{Kind: impl.ExprCase, Number: number, Kids: kids}
}

// sampleTexts are valid texts of nodes of a kind: all operators and keywords, and some of the others.
func sampleTexts(kind int) []string {
	switch kind {
	case impl.ExprString:
		return []string{"", "text", "a\"b'\\\n\t\x00\x1f ~\x7f\x80\xff", strings.Repeat("\xff", 120)}
	case impl.ExprCset:
		return []string{"", "abz", "\t\n\"'\\", everyByte()[:128]}
	case impl.ExprName, impl.ExprField, impl.ExprDefer:
		return []string{"x", "_", "abcdefghijkl", "Z9"}
	case impl.ExprKeyword:
		return wordsOf(keywordList)
	case impl.ExprUnary:
		return wordsOf(unaryList)
	case impl.ExprBinary:
		return slices.Sorted(maps.Keys(binaryLevels))
	}
	return []string{""}
}

// shapes are valid nodes of every kind with every text of the samples and with leaves as kids: as few as the kind allows, as many, and the numbers between up to a limit.
func shapes(limit int) []impl.Expr {
	var list []impl.Expr
	for _, rule := range exprRules {
		for kids := rule.fewest; kids <= rule.most; kids++ {
			if kids > limit && kids < rule.most {
				continue
			}
			for _, text := range sampleTexts(rule.kind) {
				node := nodeWith(rule, kids)
				node.Text = text
				list = append(list, node)
			}
		}
	}
	return append(list, integerOf(0), integerOf(maxInteger))
}

// The forms of the chapter letter by letter, of trees that are written out.
func TestFormsOfEveryKind(t *testing.T) {
	a, b, c, d := nameOf("a"), nameOf("b"), nameOf("c"), nameOf("d")
	for _, example := range []struct {
		tree impl.Expr
		want string
	}{
		{integerOf(0), "0"}, {integerOf(7), "7"}, {integerOf(maxInteger), "999999999999"},
		{treeOf(impl.ExprString, ""), `""`}, {treeOf(impl.ExprString, "a\"\\'\n\t\x00\x7f\xff b"), `"a\"\\'\n\t\x00\x7f\xff b"`},
		{treeOf(impl.ExprCset, ""), `''`}, {treeOf(impl.ExprCset, "\x00\t\n \"'\\a\x7f"), `'\x00\t\n "\'\\a\x7f'`},
		{a, "a"}, {nameOf("_Ab9"), "_Ab9"}, {treeOf(impl.ExprKeyword, "null"), "&null"}, {treeOf(impl.ExprKeyword, "fail"), "&fail"}, {treeOf(impl.ExprFail, ""), "fail"}, {treeOf(impl.ExprNext, ""), "next"}, {treeOf(impl.ExprDefer, "a"), "defer a"},
		{treeOf(impl.ExprUnary, "-", a), "-a"}, {treeOf(impl.ExprUnary, ".>", a), ".>a"}, {treeOf(impl.ExprUnary, "-", treeOf(impl.ExprUnary, "-", a)), "-(-a)"}, {treeOf(impl.ExprNot, "", a), "not a"},
		{treeOf(impl.ExprBinary, "+", a, b), "a + b"}, {treeOf(impl.ExprBinary, "|||:=", a, b), "a |||:= b"}, {treeOf(impl.ExprTo, "", a, b), "a to b"}, {treeOf(impl.ExprTo, "", a, b, c), "a to b by c"},
		{treeOf(impl.ExprCall, "", a), "a()"}, {treeOf(impl.ExprCall, "", a, b), "a(b)"}, {treeOf(impl.ExprCall, "", a, b, c), "a(b, c)"}, {treeOf(impl.ExprCall, "", a, b, c, d, a, b, c, d, a), "a(b, c, d, a, b, c, d, a)"},
		{treeOf(impl.ExprIndex, "", a, b), "a[b]"}, {treeOf(impl.ExprSection, "", a, b, c), "a[b : c]"}, {treeOf(impl.ExprField, "b", a), "a.b"},
		{treeOf(impl.ExprList, ""), "[]"}, {treeOf(impl.ExprList, "", a), "[a]"}, {treeOf(impl.ExprList, "", a, b, c), "[a, b, c]"}, {treeOf(impl.ExprMutual, "", a, b), "(a, b)"}, {treeOf(impl.ExprMutual, "", a, b, c), "(a, b, c)"},
		{treeOf(impl.ExprBlock, ""), "{}"}, {treeOf(impl.ExprBlock, "", a), "{a}"}, {treeOf(impl.ExprBlock, "", a, b, c), "{a; b; c}"},
		{treeOf(impl.ExprIf, "", a, b), "if a then b"}, {treeOf(impl.ExprIf, "", a, b, c), "if a then b else c"}, {treeOf(impl.ExprWhile, "", a), "while a"}, {treeOf(impl.ExprWhile, "", a, b), "while a do b"}, {treeOf(impl.ExprUntil, "", a), "until a"}, {treeOf(impl.ExprUntil, "", a, b), "until a do b"},
		{treeOf(impl.ExprEvery, "", a), "every a"}, {treeOf(impl.ExprEvery, "", a, b), "every a do b"}, {treeOf(impl.ExprRepeat, "", a), "repeat a"}, {treeOf(impl.ExprReturn, ""), "return"}, {treeOf(impl.ExprReturn, "", a), "return a"},
		{treeOf(impl.ExprSuspend, ""), "suspend"}, {treeOf(impl.ExprSuspend, "", a), "suspend a"}, {treeOf(impl.ExprSuspend, "", a, b), "suspend a do b"}, {treeOf(impl.ExprBreak, ""), "break"}, {treeOf(impl.ExprBreak, "", a), "break a"}, {treeOf(impl.ExprCreate, "", a), "create a"},
		{caseOf(0, a), "case a of {}"}, {caseOf(1, a, b), "case a of {default : b}"}, {caseOf(0, a, b, c), "case a of {b : c}"}, {caseOf(1, a, b, c, d), "case a of {b : c; default : d}"}, {caseOf(0, a, b, c, d, a), "case a of {b : c; d : a}"},
		{caseOf(1, a, b, c, d, a, b, c, d, a, b, c, d, a, b), "case a of {b : c; d : a; b : c; d : a; b : c; d : a; default : b}"},
		{treeOf(impl.ExprBinary, "+", treeOf(impl.ExprBinary, "|", a, b), treeOf(impl.ExprUnary, "-", treeOf(impl.ExprUnary, "-", c))), "(a | b) + -(-c)"},
	} {
		checkForm(t, example.tree, example.want)
		lined := copiedTree(example.tree)
		changeNodes(&lined, func(node *impl.Expr) { node.Line = math.MaxInt - len(node.Kids) })
		checkForm(t, lined, example.want)
		checkForm(t, treeOf(impl.ExprList, "", example.tree), "["+example.want+"]")
		checkForm(t, treeOf(impl.ExprMutual, "", example.tree, example.tree), "("+example.want+", "+example.want+")")
	}
}

// ownForms are sources that are printed as they are, with the forms of their trees.
var ownForms = [][2]string{
	// Binary operators beside operators of a lower, the same and a higher level.
	{"a & b & c", "((a & b) & c)"}, {"a & (b & c)", "(a & (b & c))"}, {"a ? b ? c", "((a ? b) ? c)"}, {"a ? (b ? c)", "(a ? (b ? c))"}, {"a & b ? c", "(a & (b ? c))"}, {"(a & b) ? c", "((a & b) ? c)"}, {"a ? b & c", "((a ? b) & c)"}, {"a ? (b & c)", "(a ? (b & c))"},
	{"a := b := c", "(a := (b := c))"}, {"(a := b) := c", "((a := b) := c)"}, {"a ? b := c", "(a ? (b := c))"}, {"(a ? b) := c", "((a ? b) := c)"}, {"a := b ? c", "((a := b) ? c)"}, {"a := (b ? c)", "(a := (b ? c))"}, {"a <- b +:= c", "(a <- (b +:= c))"}, {"(a <- b) +:= c", "((a <- b) +:= c)"},
	{"a | b | c", "((a | b) | c)"}, {"a | (b | c)", "(a | (b | c))"}, {"a := b | c", "(a := (b | c))"}, {"(a := b) | c", "((a := b) | c)"}, {"a | b := c", "((a | b) := c)"}, {"a | (b := c)", "(a | (b := c))"}, {"a .| b | c", "((a .| b) | c)"}, {"a .| (b | c)", "(a .| (b | c))"},
	{"a < b < c", "((a < b) < c)"}, {"a < (b < c)", "(a < (b < c))"}, {"a | b < c", "(a | (b < c))"}, {"(a | b) < c", "((a | b) < c)"}, {"a < b | c", "((a < b) | c)"}, {"a < (b | c)", "(a < (b | c))"}, {"a || b || c", "((a || b) || c)"}, {"a || (b ||| c)", "(a || (b ||| c))"}, {"(a < b) || c", "((a < b) || c)"}, {"a < b || c", "(a < (b || c))"},
	{"a - b - c", "((a - b) - c)"}, {"a - (b - c)", "(a - (b - c))"}, {"a + b * c", "(a + (b * c))"}, {"(a + b) * c", "((a + b) * c)"}, {"a * b + c", "((a * b) + c)"}, {"a * (b + c)", "(a * (b + c))"}, {"a * b / c", "((a * b) / c)"}, {"a * (b / c)", "(a * (b / c))"},
	{"a ^ b ^ c", "(a ^ (b ^ c))"}, {"(a ^ b) ^ c", "((a ^ b) ^ c)"}, {"a * b ^ c", "(a * (b ^ c))"}, {"(a * b) ^ c", "((a * b) ^ c)"}, {"a ^ (b * c)", "(a ^ (b * c))"}, {"a ^ b \\ c", "(a ^ (b \\ c))"}, {"(a ^ b) \\ c", "((a ^ b) \\ c)"}, {"a \\ b ^ c", "((a \\ b) ^ c)"}, {"a -> b => c", "((a -> b) => c)"}, {"a -> (b => c)", "(a -> (b => c))"}, {"a \\ (b ^ c)", "(a \\ (b ^ c))"},
	// To and by.
	{"a to b to c", "((a to b) to c)"}, {"a to (b to c)", "(a to (b to c))"}, {"a to b by c to d by e", "((a to b by c) to d by e)"}, {"a to (b to c) by d", "(a to (b to c) by d)"}, {"a to (b to c by d)", "(a to (b to c by d))"}, {"a to b by (c to d)", "(a to b by (c to d))"}, {"(a to b) | c", "((a to b) | c)"}, {"a | (b to c)", "(a | (b to c))"},
	{"a | b to c | d by e | f", "((a | b) to (c | d) by (e | f))"}, {"(a := b) to c", "((a := b) to c)"}, {"a to (b := c)", "(a to (b := c))"}, {"a to b by (c := d)", "(a to b by (c := d))"}, {"a to b := c to d", "((a to b) := (c to d))"}, {"a := b to c by d", "(a := (b to c by d))"}, {"a to b ? c to d", "((a to b) ? (c to d))"}, {"a & b to c", "(a & (b to c))"}, {"(a & b) to (c & d) by (e & f)", "((a & b) to (c & d) by (e & f))"}, {"-a to not b by -c", "(-(a) to not(b) by -(c))"},
	// Unary operators and not.
	{"-a", "-(a)"}, {"-(-a)", "-(-(a))"}, {"=(~a)", "=(~(a))"}, {"-(-(-a))", "-(-(-(a)))"}, {"not not a", "not(not(a))"}, {"-not a", "-(not(a))"}, {"not -a", "not(-(a))"}, {"-not -a", "-(not(-(a)))"}, {"not -(-a)", "not(-(-(a)))"}, {"-(-not a)", "-(-(not(a)))"}, {".(|a)", ".(|(a))"}, {".(.>a)", ".(.>(a))"},
	{"-a ^ b", "(-(a) ^ b)"}, {"-(a ^ b)", "-((a ^ b))"}, {"a ^ -b", "(a ^ -(b))"}, {"a -> -b -> not c", "((a -> -(b)) -> not(c))"}, {"not (a -> b)", "not((a -> b))"}, {"not a -> b", "(not(a) -> b)"}, {"-(a to b)", "-((a to b))"}, {"not (a to b by c)", "not((a to b by c))"}, {"a - -b", "(a - -(b))"}, {"a -> (b -> -c)", "(a -> (b -> -(c)))"},
	{"-a(b)", "-(call(a, b))"}, {"(-a)(b)", "call(-(a), b)"}, {"-(-a)(b)", "-(call(-(a), b))"}, {"(-(-a))(b)", "call(-(-(a)), b)"}, {"(not a)[b]", "index(not(a), b)"}, {"not a[b]", "not(index(a, b))"}, {"(-a).b", "field.b(-(a))"}, {".a.b", ".(field.b(a))"}, {"-[a]", "-(list(a))"}, {"-(a, b)", "-(mutual(a, b))"}, {"-{a}", "-(block(a))"}, {"-\"a\"", `-("a")`}, {"-'a'", "-('a')"}, {"-&pos", "-(&pos)"}, {"-1", "-(1)"}, {"-fail", "-(fail)"}, {"-next", "-(next)"}, {"-defer a", "-(defer.a)"},
	// Constructs as operands and as first kids.
	{"(if a then b) + c", "(if(a, b) + c)"}, {"a + (if b then c)", "(a + if(b, c))"}, {"a & (return b)", "(a & return(b))"}, {"(return) & a", "(return & a)"}, {"a := (create b)", "(a := create(b))"}, {"(every a) to (repeat b) by (break)", "(every(a) to repeat(b) by break)"}, {"-(while a do b)", "-(while(a, b))"}, {"not (suspend)", "not(suspend)"}, {"-(case a of {})", "-(case0(a))"}, {"a ^ (until b)", "(a ^ until(b))"},
	{"(if a then b)(c)", "call(if(a, b), c)"}, {"(return)[a]", "index(return, a)"}, {"(case a of {})[b : c]", "section(case0(a), b, c)"}, {"(create a).b", "field.b(create(a))"}, {"(a + b)()", "call((a + b))"}, {"(a to b)[c]", "index((a to b), c)"}, {"(a & b)[c : d]", "section((a & b), c, d)"}, {"(a := b).c", "field.c((a := b))"}, {"a(b)(c)[d][e : f].g()", "call(field.g(section(index(call(call(a, b), c), d), e, f)))"},
	{"1.a", "field.a(1)"}, {"\"f\"(a)", "call(\"f\", a)"}, {"'a'[b]", "index('a', b)"}, {"&pos.a", "field.a(&pos)"}, {"[a][b]", "index(list(a), b)"}, {"(a, b)(c)", "call(mutual(a, b), c)"}, {"{a}.b", "field.b(block(a))"}, {"fail(a)", "call(fail, a)"}, {"next[a]", "index(next, a)"}, {"defer a.b", "field.b(defer.a)"}, {"defer a(b)", "call(defer.a, b)"},
	// Constructs as the kids of constructs.
	{"if (if a then b) then (if c then d) else (if e then f)", "if(if(a, b), if(c, d), if(e, f))"}, {"if a then (if b then c else d)", "if(a, if(b, c, d))"}, {"if a then (while b) else c", "if(a, while(b), c)"}, {"while (every a) do b", "while(every(a), b)"}, {"while a do (every b do c)", "while(a, every(b, c))"}, {"every (while a do b)", "every(while(a, b))"}, {"until (suspend) do (suspend a)", "until(suspend, suspend(a))"},
	{"repeat (return a)", "repeat(return(a))"}, {"return (return)", "return(return)"}, {"suspend (suspend a) do b", "suspend(suspend(a), b)"}, {"suspend (suspend a do b)", "suspend(suspend(a, b))"}, {"break (break)", "break(break)"}, {"create (create a)", "create(create(a))"}, {"return -a", "return(-(a))"}, {"return .a", "return(.(a))"}, {"return not a", "return(not(a))"}, {"return (a, b)", "return(mutual(a, b))"}, {"return [a]", "return(list(a))"}, {"break {a}", "break(block(a))"}, {"suspend =a do .b", "suspend(=(a), .(b))"},
	{"if a & b then c & d else e & f", "if((a & b), (c & d), (e & f))"}, {"while a := b do c := d", "while((a := b), (c := d))"}, {"every a := b to c by d do e", "every((a := (b to c by d)), e)"}, {"return a & b", "return((a & b))"}, {"suspend a & b do c & d", "suspend((a & b), (c & d))"}, {"create a & b", "create((a & b))"}, {"repeat a & b", "repeat((a & b))"}, {"break a ? b", "break((a ? b))"}, {"until a to b do c to d", "until((a to b), (c to d))"},
	{"case (if a then b) of {}", "case0(if(a, b))"}, {"case a of {(return) : (return b)}", "case0(a, return, return(b))"}, {"case a of {default : (case b of {default : c})}", "case1(a, case1(b, c))"}, {"case a & b of {c & d : e & f; default : g & h}", "case1((a & b), (c & d), (e & f), (g & h))"}, {"case {a} of {{b} : {c}; [d] : (e, f)}", "case0(block(a), block(b), block(c), list(d), mutual(e, f))"}, {"case case0 of {}", "case0(case0)"},
	// Arguments, elements, statements, the parts of a mutual evaluation and an index may be constructs, the second position of a section too.
	{"a(if b then c, return)", "call(a, if(b, c), return)"}, {"a(return, return b, b & c)", "call(a, return, return(b), (b & c))"}, {"[suspend, suspend a do b, while c]", "list(suspend, suspend(a, b), while(c))"}, {"{if a then b; break; case c of {}; every d do e}", "block(if(a, b), break, case0(c), every(d, e))"}, {"(if a then b, create c)", "mutual(if(a, b), create(c))"}, {"(return, break)", "mutual(return, break)"}, {"[[a & b], {c; d}, (e, f)]", "list(list((a & b)), block(c, d), mutual(e, f))"},
	{"a[if b then c]", "index(a, if(b, c))"}, {"a[return]", "index(a, return)"}, {"a[b & c]", "index(a, (b & c))"}, {"a[b & c : d & e]", "section(a, (b & c), (d & e))"}, {"a[(if b then c) : if d then e]", "section(a, if(b, c), if(d, e))"}, {"a[(return) : return]", "section(a, return, return)"}, {"a[1 : =b]", "section(a, 1, =(b))"}, {"a[b := c : d := e]", "section(a, (b := c), (d := e))"}, {"a[b to c : d to e by f]", "section(a, (b to c), (d to e by f))"}, {"a[b[c : d] : e]", "section(a, section(b, c, d), e)"},
	{`write("\x00\"'\\\n\t", '"\'', 12, &null)`, `call(write, "\x00\"'\\\n\t", '"'', 12, &null)`},
}

func TestSourcesThatArePrintedAsTheyAre(t *testing.T) {
	for _, c := range ownForms {
		e, line := parsedExpression(t, c[0])
		if line != 0 || form(e) != c[1] {
			t.Errorf("ParseExpression(%q) = %s, %d, want %s", c[0], form(e), line, c[1])
			continue
		}
		checkForm(t, e, c[0])
		// With round brackets everywhere, and in other places.
		for _, place := range wholePlaces {
			whole, line := parsedExpression(t, strings.ReplaceAll(place, "#", "(\n"+c[0]+"\n)"))
			if line != 0 {
				t.Errorf("%s has no place for %s", place, c[0])
			}
			checkPrint(t, whole)
		}
	}
}

func TestSourcesThatArePrintedInAnotherWay(t *testing.T) {
	for _, c := range [][2]string{
		{"((a))", "a"}, {"((a)+(b))", "a + b"}, {"a+b*c", "a + b * c"}, {"a + (b * c)", "a + b * c"}, {"(a - b) - c", "a - b - c"}, {"a := (b := c)", "a := b := c"}, {"a ^ (b ^ c)", "a ^ b ^ c"}, {"(a to b) to c", "a to b to c"}, {"(a | b) to (c | d)", "a | b to c | d"}, {"(a\n:= b) &\n(c)", "a := b & c"}, {"(-a) + (not b)", "-a + not b"}, {"(a, b)", "(a, b)"}, {"((a, b))", "(a, b)"},
		{"- a", "-a"}, {"- - a", "-(-a)"}, {"not(a)", "not a"}, {"not\n- a", "not -a"}, {"-(a)(b)", "-a(b)"}, {"-((a)(b))", "-a(b)"}, {"a - - b", "a - -b"}, {"-(not(a))", "-not a"}, {"@!a", "@(!a)"}, {"- if a then b else c + d", "-(if a then b else c + d)"}, {"not return", "not (return)"}, {"a + if b then c else d + e", "a + (if b then c else d + e)"},
		{"007", "7"}, {"'banana'", "'abn'"}, {"\"\\'\\x41\\x0a\"", "\"'A\\n\""}, {"'\\\"\\x27'", "'\"\\''"}, {"[ a,b ]", "[a, b]"}, {"{;;a;;b;;}", "{a; b}"}, {"{a\nb\n}", "{a; b}"}, {"{ }", "{}"}, {"f ( a,b )", "f(a, b)"}, {"a [ b ]", "a[b]"}, {"a[b:c]", "a[b : c]"}, {"a . b", "a.b"}, {"a[(b & c)]", "a[b & c]"}, {"f((if a then b))", "f(if a then b)"},
		{"if a then if b then c else d", "if a then (if b then c else d)"}, {"if a then b else if c then d", "if a then b else (if c then d)"}, {"while a do every b do c", "while a do (every b do c)"}, {"while every a do b", "while (every a do b)"}, {"return if a then b", "return (if a then b)"}, {"return return", "return (return)"}, {"suspend suspend a do b do c", "suspend (suspend a do b) do c"}, {"repeat create a", "repeat (create a)"}, {"a[return : b]", "a[(return) : b]"}, {"a[b : return]", "a[b : return]"},
		{"case a of {;1:b;;2:c;}", "case a of {1 : b; 2 : c}"}, {"case a of {default:b;1:c}", "case a of {1 : c; default : b}"}, {"case a of {1 : b; default : c; 2 : d}", "case a of {1 : b; 2 : d; default : c}"}, {"case a\nof\n{\n1 :\nb\n2 : c\n}", "case a of {1 : b; 2 : c}"}, {"case a of {}(b)", "(case a of {})(b)"}, {"case a of {} + b", "(case a of {}) + b"}, {"case return of {return : return}", "case (return) of {(return) : (return)}"},
	} {
		e, line := parsedExpression(t, c[0])
		if line != 0 {
			t.Errorf("ParseExpression(%q) gives line %d", c[0], line)
			continue
		}
		checkForm(t, e, c[1])
	}
}

// Two unary operators never stand side by side, and not needs no brackets.
func TestNestedUnaryOperators(t *testing.T) {
	a := nameOf("a")
	for _, one := range wordsOf(unaryList) {
		single := treeOf(impl.ExprUnary, one, a)
		checkForm(t, single, one+"a")
		checkForm(t, treeOf(impl.ExprNot, "", single), "not "+one+"a")
		checkForm(t, treeOf(impl.ExprUnary, one, treeOf(impl.ExprNot, "", a)), one+"not a")
		checkForm(t, treeOf(impl.ExprUnary, one, treeOf(impl.ExprNot, "", single)), one+"not "+one+"a")
		checkForm(t, treeOf(impl.ExprCall, "", single), "("+one+"a)()")
		checkForm(t, treeOf(impl.ExprField, "b", single), "("+one+"a).b")
		for _, other := range wordsOf(unaryList) {
			double := treeOf(impl.ExprUnary, other, single)
			checkForm(t, double, other+"("+one+"a)")
			checkForm(t, treeOf(impl.ExprNot, "", double), "not "+other+"("+one+"a)")
			checkForm(t, treeOf(impl.ExprUnary, other, treeOf(impl.ExprIndex, "", single, a)), other+"("+one+"a)[a]")
			checkForm(t, treeOf(impl.ExprUnary, "-", double), "-("+other+"("+one+"a))")
			checkForm(t, treeOf(impl.ExprMutual, "", double, single), "("+other+"("+one+"a), "+one+"a)")
			for _, binary := range slices.Sorted(maps.Keys(binaryLevels)) {
				checkForm(t, treeOf(impl.ExprBinary, binary, single, double), one+"a "+binary+" "+other+"("+one+"a)")
				checkForm(t, treeOf(impl.ExprUnary, other, treeOf(impl.ExprBinary, binary, single, a)), other+"("+one+"a "+binary+" a)")
			}
		}
	}
	deep, want := a, "a"
	for i := range 39 {
		if deep = treeOf(impl.ExprUnary, "-", deep); i > 0 {
			want = "(" + want + ")"
		}
		want = "-" + want
	}
	checkForm(t, deep, want)
	checkRefused(t, treeOf(impl.ExprUnary, "-", deep))
}

// Every pair of binary operators, with the brackets that its levels require.
func TestBinaryOperatorsAsOperands(t *testing.T) {
	a, b, c := nameOf("a"), nameOf("b"), nameOf("c")
	operators := slices.Sorted(maps.Keys(binaryLevels))
	for _, outer := range operators {
		for _, inner := range operators {
			plain := "a " + inner + " b " + outer + " c"
			left, right := binaryLevels[inner] > binaryLevels[outer], binaryLevels[inner] > binaryLevels[outer]
			if binaryLevels[inner] == binaryLevels[outer] {
				right = listed(":= <- :=: <-> +:= -:= *:= /:= %:= ^:= ||:= |||:= ++:= --:= **:= ^", outer)
				left = !right
			}
			if !left {
				plain = "(a " + inner + " b) " + outer + " c"
			}
			checkForm(t, treeOf(impl.ExprBinary, outer, treeOf(impl.ExprBinary, inner, a, b), c), plain)
			plain = "a " + outer + " b " + inner + " c"
			if !right {
				plain = "a " + outer + " (b " + inner + " c)"
			}
			checkForm(t, treeOf(impl.ExprBinary, outer, a, treeOf(impl.ExprBinary, inner, b, c)), plain)
		}
	}
}

// Every shape of a node as each kid of every shape.
func TestEveryKidOfEveryNode(t *testing.T) {
	kids := shapes(3)
	checked := 0
	for _, parent := range shapes(3) {
		checkPrint(t, parent)
		for i := range parent.Kids {
			for _, kid := range kids {
				e := parent
				e.Kids = slices.Clone(parent.Kids)
				e.Kids[i] = kid
				checkPrint(t, e)
				checked++
			}
		}
	}
	if checked < 30000 {
		t.Errorf("only %d pairs", checked)
	}
}

// Three nodes below each other: one operator of each level, and what else has a level of its own or an open end.
func TestNodesInThreeLevels(t *testing.T) {
	x := nameOf("x")
	list := []impl.Expr{
		treeOf(impl.ExprTo, "", x, x), treeOf(impl.ExprTo, "", x, x, x), treeOf(impl.ExprUnary, "-", x), treeOf(impl.ExprUnary, ".", x), treeOf(impl.ExprNot, "", x), treeOf(impl.ExprIf, "", x, x), treeOf(impl.ExprIf, "", x, x, x), treeOf(impl.ExprWhile, "", x), treeOf(impl.ExprSuspend, "", x), treeOf(impl.ExprSuspend, "", x, x), treeOf(impl.ExprReturn, "", x), treeOf(impl.ExprReturn, ""), treeOf(impl.ExprCreate, "", x),
		caseOf(0, x, x, x), caseOf(1, x, x), treeOf(impl.ExprCall, "", x, x), treeOf(impl.ExprSection, "", x, x, x), treeOf(impl.ExprField, "f", x), treeOf(impl.ExprList, "", x), treeOf(impl.ExprBlock, "", x, x), treeOf(impl.ExprMutual, "", x, x), treeOf(impl.ExprDefer, "x"),
	}
	for _, operator := range []string{"&", "?", ":=", "<->", "|", "<", "||", "-", "--", "*", "^", "\\", "->"} {
		list = append(list, treeOf(impl.ExprBinary, operator, x, x))
	}
	for _, first := range list {
		for i := range first.Kids {
			for _, second := range list {
				for j := range second.Kids {
					for _, third := range list {
						e := copiedTree(first)
						e.Kids[i] = copiedTree(second)
						e.Kids[i].Kids[j] = third
						checkPrint(t, e)
					}
				}
			}
		}
	}
}

// randomShape is a tree of at most some depth that is valid if it is not too large, mostly of operators if the depth is odd.
func randomShape(random *rand.Rand, depth int) impl.Expr {
	rule := exprRules[random.IntN(len(exprRules))]
	if depth > 1 && random.IntN(2) == 0 {
		rule = ruleOf([]int{impl.ExprUnary, impl.ExprBinary, impl.ExprBinary, impl.ExprTo, impl.ExprNot}[random.IntN(5)])
	}
	for depth == 1 && rule.fewest > 0 {
		rule = exprRules[random.IntN(len(exprRules))]
	}
	texts := sampleTexts(rule.kind)
	node := impl.Expr{Kind: rule.kind, Text: texts[random.IntN(len(texts))], Line: random.IntN(4)}
	if depth > 1 {
		for range rule.fewest + random.IntN(min(rule.most-rule.fewest, 3)+1) {
			node.Kids = append(node.Kids, randomShape(random, depth-1))
		}
	}
	switch rule.kind {
	case impl.ExprCase:
		node.Number = (len(node.Kids) + 1) % 2
	case impl.ExprInteger:
		node.Number = random.IntN(maxInteger + 1)
	}
	return node
}

func TestRandomTreesArePrinted(t *testing.T) {
	random := rand.New(rand.NewPCG(8, 1))
	printed, refused := 0, 0
	for i := range 20000 {
		tree := randomShape(random, 1+i%8)
		if i%5 == 0 {
			spoil(random, &tree)
		}
		if checkPrint(t, tree) == "" {
			refused++
		} else {
			printed++
		}
	}
	if printed < 12000 || refused < 1500 {
		t.Errorf("%d of the trees are printed and %d are not", printed, refused)
	}
}

func TestLiteralsArePrinted(t *testing.T) {
	for b := range 256 {
		for _, text := range []string{bytesOf(byte(b)), "a" + bytesOf(byte(b)) + "n", bytesOf(byte(b)) + "\\" + bytesOf(byte(b)), strings.Repeat(bytesOf(byte(b)), 120)} {
			checkForm(t, treeOf(impl.ExprString, text), quotedBytes(text, '"'))
		}
		if b < 128 {
			checkForm(t, treeOf(impl.ExprCset, bytesOf(byte(b))), "'"+quotedByte(byte(b), '\'')+"'")
			checkForm(t, treeOf(impl.ExprCset, everyByte()[:b]), quotedBytes(everyByte()[:b], '\''))
			checkForm(t, treeOf(impl.ExprCset, everyByte()[b:128]), quotedBytes(everyByte()[b:128], '\''))
		} else {
			checkRefused(t, treeOf(impl.ExprCset, bytesOf(byte(b))))
		}
	}
	for _, size := range []int{0, 1, 119, 120, 121, 122, 240, 100000} {
		checkPrint(t, treeOf(impl.ExprString, patternText(size)))
	}
	for _, n := range append(integersOfAllSizes(), extremeInts()...) {
		if n < 0 || n > maxInteger {
			checkRefused(t, integerOf(n))
			continue
		}
		checkForm(t, integerOf(n), strconv.Itoa(n))
		checkForm(t, treeOf(impl.ExprUnary, "-", integerOf(n)), "-"+strconv.Itoa(n))
	}
	for kind, before := range map[int]string{impl.ExprName: "", impl.ExprDefer: "defer ", impl.ExprKeyword: "&"} {
		for _, text := range append(wordsOf(keywordList, reservedList), "x", "_", "__9", "abcdefghijkl", "abcdefghijklm", "", "1", "a b", "a.b", "&pos", "x\n", "\xff") {
			if ruleOf(kind).text(text) {
				checkForm(t, treeOf(kind, text), before+text)
			} else {
				checkRefused(t, treeOf(kind, text))
			}
		}
	}
}

func TestInvalidTreesAreNotPrinted(t *testing.T) {
	for _, rule := range exprRules {
		for kids := range rule.most + 4 {
			for _, place := range inPlaces(nodeWith(rule, kids)) {
				if kids < rule.fewest || kids > rule.most {
					checkRefused(t, place)
				} else if depthOf(place) < 10 {
					checkPrint(t, place)
				}
			}
		}
		for i, bad := range faultyNodes(rule) {
			checkRefused(t, bad)
			places := inPlaces(bad)
			for j := i % 7; j < len(places); j += 7 {
				checkRefused(t, places[j])
			}
		}
	}
	for kids := range 18 {
		for number := -1; number < 4; number++ {
			checkPrint(t, caseOf(number, slices.Repeat([]impl.Expr{nameOf("x")}, kids)...))
		}
	}
	checkRefused(t, impl.Expr{})
}

func TestPrintedTreesOfAnyDepth(t *testing.T) {
	for _, rule := range exprRules {
		for kids := max(1, rule.fewest); kids <= min(rule.most, 4); kids++ {
			for index := range kids {
				for _, depth := range []int{2, 3, 20, 38, 39, 40, 41, 42} {
					// The form is checked for the depth 40 too, at which it has the most brackets.
					checkPrint(t, chain(rule, kids, index, depth-1, leafNode(0)))
				}
			}
		}
	}
	for depth := 28; depth <= 43; depth++ {
		for nodes := 597; nodes <= 603; nodes++ {
			tree := shapedTree(nodes, depth, 3, true)
			if text := checkPrint(t, tree); (text != "") != (nodes <= 600 && depth <= 40) {
				t.Errorf("the form of %d nodes of depth %d is %.300q", nodes, depth, text)
			}
		}
	}
	// Kids that contain themselves: a tree without an end, and one without an end in every direction.
	for _, count := range []int{1, 24} {
		kids := make([]impl.Expr, count)
		for i := range kids {
			kids[i] = impl.Expr{Kind: impl.ExprBlock, Kids: kids}
		}
		checkRefused(t, kids[0])
	}
	checkRefused(t, chain(ruleOf(impl.ExprNot), 1, 0, 60000, leafNode(0)))
	checkRefused(t, impl.Expr{Kind: impl.ExprBlock, Kids: slices.Repeat([]impl.Expr{leafNode(0)}, 300000)})
}

// lengthen makes the form of a tree longer by a number of bytes, by way of its strings: with bytes that are printed as they are, or as four bytes. It returns what remains.
func lengthen(e *impl.Expr, more int, escaped bool) int {
	changeNodes(e, func(node *impl.Expr) {
		if node.Kind != impl.ExprString {
			return
		}
		for more > 0 && len(node.Text) < maxText {
			if escaped && more >= 4 {
				node.Text += "\x00"
				more -= 4
			} else {
				node.Text += "x"
				more--
			}
		}
	})
	return more
}

// emptyStrings is a block of 7 lists with 8 empty strings each.
func emptyStrings() impl.Expr {
	var block impl.Expr
	block.Kind = impl.ExprBlock
	for range 7 {
		block.Kids = append(block.Kids, treeOf(impl.ExprList, "", slices.Repeat([]impl.Expr{treeOf(impl.ExprString, "")}, 8)...))
	}
	return copiedTree(block)
}

func TestLimitOfPrintedExpressions(t *testing.T) {
	accepted := 0
	for i, place := range inPlaces(emptyStrings()) {
		if !impl.IsValidExpr(place) {
			continue
		}
		empty := len(printedForm(place))
		for size := maxSource - 2; size <= maxSource+3; size++ {
			e := copiedTree(place)
			if lengthen(&e, size-empty, i%2 == 1) != 0 || len(printedForm(e)) != size {
				t.Fatalf("no form of %d bytes", size)
			}
			if text := checkPrint(t, e); len(text) != size && text != "" || (text != "") != (size <= maxSource) {
				t.Fatalf("PrintExpression(%.100s) of %d bytes has %d", form(e), size, len(text))
			}
			accepted++
		}
	}
	if accepted < 600 {
		t.Errorf("only %d trees", accepted)
	}
	// The longest form of all: 24 kids with 23 strings each, and a few more.
	long := treeOf(impl.ExprBlock, "", slices.Repeat([]impl.Expr{treeOf(impl.ExprBlock, "", slices.Repeat([]impl.Expr{treeOf(impl.ExprString, strings.Repeat("\x00", 120))}, 23)...)}, 24)...)
	if !impl.IsValidExpr(long) {
		t.Error("the longest tree is not valid")
	}
	checkRefused(t, long)
}

func TestFormsOfUnits(t *testing.T) {
	a, block := nameOf("a"), func(kids ...impl.Expr) impl.Expr { return treeOf(impl.ExprBlock, "", kids...) }
	for _, c := range []struct {
		unit impl.Unit
		want string
	}{
		{impl.Unit{}, ""}, {impl.Unit{Records: []impl.RecordType{}, Globals: []string{}, Procedures: []impl.Procedure{}}, ""},
		{impl.Unit{Records: []impl.RecordType{{Name: "r"}}}, "record r()\n"}, {impl.Unit{Records: []impl.RecordType{{Name: "r", Fields: []string{"a"}}}}, "record r(a)\n"}, {impl.Unit{Records: []impl.RecordType{{Name: "r", Fields: []string{"a", "b", "c", "d", "e", "f"}, Line: 9}, {Name: "r", Fields: []string{"a", "a"}, Line: 1}}}, "record r(a, b, c, d, e, f)\nrecord r(a, a)\n"},
		{impl.Unit{Globals: []string{"a"}}, "global a\n"}, {impl.Unit{Globals: []string{"a", "b", "a"}}, "global a, b, a\n"}, {impl.Unit{Globals: []string{"a", "b", "c", "d", "e", "f", "g", "h", "i", "j", "k", "l"}}, "global a, b, c, d, e, f, g, h, i, j, k, l\n"},
		{impl.Unit{Procedures: []impl.Procedure{{Name: "p", Body: block()}}}, "procedure p()\nend\n"}, {impl.Unit{Procedures: []impl.Procedure{{Name: "p", Params: []string{"a"}, Body: block()}}}, "procedure p(a)\nend\n"}, {impl.Unit{Procedures: []impl.Procedure{{Name: "p", Params: []string{"a", "b", "c", "d", "e", "f"}, Body: block()}}}, "procedure p(a, b, c, d, e, f)\nend\n"},
		{impl.Unit{Procedures: []impl.Procedure{{Name: "p", Locals: []string{"a"}, Body: block()}}}, "procedure p()\nlocal a;\nend\n"}, {impl.Unit{Procedures: []impl.Procedure{{Name: "p", Params: []string{"a", "b"}, Locals: []string{"a", "b", "c", "d", "e", "f", "g", "a"}, Body: block(a)}}}, "procedure p(a, b)\nlocal a, b, c, d, e, f, g, a;\na;\nend\n"},
		{impl.Unit{Procedures: []impl.Procedure{{Name: "p", Body: block(a)}}}, "procedure p()\na;\nend\n"}, {impl.Unit{Procedures: []impl.Procedure{{Name: "p", Body: block(block(), block(a, a), treeOf(impl.ExprReturn, ""), treeOf(impl.ExprIf, "", a, treeOf(impl.ExprReturn, "")))}}}, "procedure p()\n{};\n{a; a};\nreturn;\nif a then (return);\nend\n"},
		{impl.Unit{Procedures: []impl.Procedure{{Name: "p", Body: block(treeOf(impl.ExprUnary, "-", a), treeOf(impl.ExprMutual, "", a, a), treeOf(impl.ExprString, "\n;"), treeOf(impl.ExprBinary, "&", a, a), treeOf(impl.ExprSuspend, "", a, a), treeOf(impl.ExprList, ""), caseOf(1, a, a))}}}, "procedure p()\n-a;\n(a, a);\n\"\\n;\";\na & a;\nsuspend a do a;\n[];\ncase a of {default : a};\nend\n"},
		{impl.Unit{Procedures: []impl.Procedure{{Name: "p", Body: block(), Line: 7}, {Name: "p", Body: block(a), Line: 3}}}, "procedure p()\nend\nprocedure p()\na;\nend\n"},
		{
			impl.Unit{Records: []impl.RecordType{{Name: "pair", Fields: []string{"left", "right"}, Line: 4}}, Globals: []string{"g", "h"}, Procedures: []impl.Procedure{{Name: "main", Params: []string{"args"}, Locals: []string{"x", "y"}, Body: block(treeOf(impl.ExprBinary, ":=", nameOf("x"), integerOf(1))), Line: 2}, {Name: "q", Body: block(treeOf(impl.ExprFail, "")), Line: 1}}},
			"record pair(left, right)\nglobal g, h\nprocedure main(args)\nlocal x, y;\nx := 1;\nend\nprocedure q()\nfail;\nend\n",
		},
	} {
		if got := checkPrintUnit(t, c.unit); got != c.want {
			t.Errorf("PrintUnit(%.300s) = %q, want %q", unitForm(c.unit), got, c.want)
		}
		if _, ok := impl.PrintUnit(c.unit); !ok {
			t.Errorf("PrintUnit(%.300s) is false", unitForm(c.unit))
		}
	}
}

// Every shape of a node as a statement, alone and between others.
func TestStatementsOfUnits(t *testing.T) {
	for _, shape := range shapes(3) {
		text := checkPrint(t, shape)
		u := impl.Unit{Procedures: []impl.Procedure{{Name: "p", Body: treeOf(impl.ExprBlock, "", shape)}, {Name: "q", Params: []string{"x"}, Locals: []string{"y"}, Body: treeOf(impl.ExprBlock, "", nameOf("x"), shape, shape, nameOf("y"))}}}
		want := "procedure p()\n" + text + ";\nend\nprocedure q(x)\nlocal y;\nx;\n" + text + ";\n" + text + ";\ny;\nend\n"
		if got := checkPrintUnit(t, u); got != want {
			t.Errorf("PrintUnit(%.300s) = %.600q, want %.600q", unitForm(u), got, want)
		}
	}
}

func TestInvalidUnitsAreNotPrinted(t *testing.T) {
	for _, c := range []struct {
		most   int
		change func(u *impl.Unit, count int)
	}{
		{8, func(u *impl.Unit, count int) { u.Records = slices.Repeat(u.Records[:1], count) }},
		{6, func(u *impl.Unit, count int) { u.Records[1].Fields = numberedNames(count) }},
		{12, func(u *impl.Unit, count int) { u.Globals = numberedNames(count) }},
		{12, func(u *impl.Unit, count int) { u.Procedures = slices.Repeat(u.Procedures[1:2], count) }},
		{6, func(u *impl.Unit, count int) { u.Procedures[0].Params = numberedNames(count) }},
		{8, func(u *impl.Unit, count int) { u.Procedures[2].Locals = numberedNames(count) }},
		{24, func(u *impl.Unit, count int) {
			u.Procedures[1].Body.Kids = slices.Repeat([]impl.Expr{leafNode(0)}, count)
		}},
	} {
		for _, count := range []int{0, 1, 2, c.most - 1, c.most, c.most + 1, c.most + 2, 1000} {
			u := sampleUnit()
			c.change(&u, count)
			if text := checkPrintUnit(t, u); (text != "") != (count <= c.most) {
				t.Errorf("PrintUnit with %d of something is %.300q", count, text)
			}
		}
	}
	sample := sampleUnit()
	for place := range namePlaces(&sample) {
		for _, text := range append(wordsOf(reservedList), "a", "abcdefghijkl", "abcdefghijklm", "", "1", "a b", "a\n", "null") {
			u := copiedUnit(sample)
			*namePlaces(&u)[place] = text
			checkPrintUnit(t, u)
		}
	}
	for _, line := range []int{math.MinInt, -1, 0, 1, math.MaxInt} {
		for _, change := range []func(u *impl.Unit){
			func(u *impl.Unit) { u.Records[1].Line = line }, func(u *impl.Unit) { u.Procedures[2].Line = line }, func(u *impl.Unit) { u.Procedures[2].Body.Line = line }, func(u *impl.Unit) { u.Procedures[1].Body.Kids[0].Line = line },
		} {
			u := sampleUnit()
			change(&u)
			if text := checkPrintUnit(t, u); (text == printedUnit(sample)) != (line >= 0) {
				t.Errorf("with the line %d PrintUnit gives %.300q", line, text)
			}
		}
	}
	for _, rule := range exprRules {
		u := sampleUnit()
		u.Procedures[1].Body = nodeWith(rule, rule.most)
		if text := checkPrintUnit(t, u); (text != "") != (rule.kind == impl.ExprBlock) {
			t.Errorf("PrintUnit with a body of the kind %d is %.300q", rule.kind, text)
		}
	}
	for _, u := range []impl.Unit{{Procedures: make([]impl.Procedure, 1)}, {Records: make([]impl.RecordType, 1)}, {Globals: []string{""}}, {Procedures: []impl.Procedure{{Name: "p"}}}, {Globals: make([]string, 100000)}} {
		if text, ok := impl.PrintUnit(u); text != "" || ok {
			t.Errorf("PrintUnit(%.300s) = %.300q, %v", unitForm(u), text, ok)
		}
	}
}

// fullUnit is a unit with the most declarations and names, and one statement in each body.
func fullUnit() impl.Unit {
	return copiedUnit(impl.Unit{
		Records: slices.Repeat([]impl.RecordType{{Name: "r", Fields: numberedNames(6)}}, 8), Globals: numberedNames(12),
		Procedures: slices.Repeat([]impl.Procedure{{Name: "p", Params: numberedNames(6), Locals: numberedNames(8), Body: treeOf(impl.ExprBlock, "", treeOf(impl.ExprList, "", slices.Repeat([]impl.Expr{treeOf(impl.ExprString, "")}, 8)...))}}, 12),
	})
}

func TestLimitOfPrintedUnits(t *testing.T) {
	one := impl.Unit{Procedures: []impl.Procedure{{Name: "p", Body: emptyStrings()}}}
	many := sampleUnit()
	many.Procedures[1].Body = emptyStrings()
	for _, unit := range []impl.Unit{one, many, fullUnit()} {
		empty := len(checkPrintUnit(t, unit))
		for _, escaped := range []bool{false, true} {
			for size := maxSource - 5; size <= maxSource+5; size++ {
				u := copiedUnit(unit)
				more := size - empty
				for i := range u.Procedures {
					more = lengthen(&u.Procedures[i].Body, more, escaped)
				}
				if more != 0 || len(printedUnit(u)) != size {
					t.Fatalf("no form of %d bytes", size)
				}
				if text := checkPrintUnit(t, u); len(text) != size && text != "" || (text != "") != (size <= maxSource) {
					t.Fatalf("PrintUnit(%.300s) of %d bytes has %d", unitForm(u), size, len(text))
				}
			}
		}
	}
	long := fullUnit()
	for i := range long.Procedures {
		lengthen(&long.Procedures[i].Body, math.MaxInt, true)
	}
	checkPrintUnit(t, long)
}

// What is parsed, printed and parsed again differs only in its lines (P7), in sources of every sort.
func TestParsedSourcesArePrinted(t *testing.T) {
	s := speaker{random: rand.New(rand.NewPCG(8, 2))}
	trees, units := 0, 0
	for i := range 12000 {
		s.words = nil
		s.say("#", 1+i%5)
		if e, line := parsedExpression(t, s.source()); line == 0 && checkPrint(t, e) != "" {
			trees++
		}
		s.words = nil
		for range s.random.IntN(10) {
			s.sayOne(unitForms, i%3)
		}
		if u, line := parsedUnit(t, s.source()); line == 0 && checkPrintUnit(t, u) != "" {
			units++
		}
	}
	if trees < 8000 || units < 4000 {
		t.Errorf("%d trees and %d units were printed", trees, units)
	}
	source := "record pair(left,\nright)\n;;global a\nglobal b, c\nprocedure main()\nlocal x; local y, z\n\nx := (1)\ny :=\n2; ; if x then {\nwrite(x)\nwrite(y)\n}\nelse z\nend procedure p(a) end record q()"
	want := "record pair(left, right)\nrecord q()\nglobal a, b, c\nprocedure main()\nlocal x, y, z;\nx := 1;\ny := 2;\nif x then {write(x); write(y)} else z;\nend\nprocedure p(a)\nend\n"
	u, line := parsedUnit(t, source)
	if text := checkPrintUnit(t, u); line != 0 || text != want {
		t.Errorf("PrintUnit(%s) = %q, %d, want %q", unitForm(u), text, line, want)
	}
}

// The bytes of the texts are changed after the call: a form that shares them would change too.
func TestFormsShareNoMemory(t *testing.T) {
	for _, rule := range exprRules {
		for _, sample := range sampleTexts(rule.kind) {
			if sample == "" {
				continue
			}
			bytes := []byte(sample)
			e := nodeWith(rule, rule.fewest)
			e.Text = unsafe.String(&bytes[0], len(bytes))
			want := strings.Clone(printedForm(e))
			text, _ := impl.PrintExpression(e)
			u := impl.Unit{Procedures: []impl.Procedure{{Name: "p", Body: treeOf(impl.ExprBlock, "", e)}}}
			unitText, _ := impl.PrintUnit(u)
			clear(bytes)
			if text != want || unitText != "procedure p()\n"+want+";\nend\n" {
				t.Errorf("the forms %.300q and %.300q share memory with the tree", text, unitText)
			}
		}
	}
	text := []byte("shared")
	name := unsafe.String(&text[0], len(text))
	for _, u := range []impl.Unit{{Records: []impl.RecordType{{Name: name, Fields: []string{name}}}}, {Globals: []string{name}}, {Procedures: []impl.Procedure{{Name: name, Params: []string{name}, Locals: []string{name}, Body: treeOf(impl.ExprBlock, "", nameOf(name))}}}} {
		copy(text, "shared")
		want := strings.Clone(printedUnit(u))
		got, ok := impl.PrintUnit(u)
		clear(text)
		if got != want || !ok {
			t.Errorf("the form %q shares memory with the unit", got)
		}
	}
	// The memory behind the lists is not read, nor written.
	kids := []impl.Expr{leafNode(0), leafNode(1), {Kind: -1, Text: "spare"}}
	names := []string{"a", "b", "if"}
	before, beforeNames := slices.Clone(kids), slices.Clone(names)
	checkForm(t, impl.Expr{Kind: impl.ExprList, Kids: kids[:2]}, "[x, 7]")
	checkForm(t, impl.Expr{Kind: impl.ExprReturn, Kids: kids[:1]}, "return x")
	u := impl.Unit{Records: []impl.RecordType{{Name: "r", Fields: names[:2]}}, Globals: names[:1], Procedures: []impl.Procedure{{Name: "p", Params: names[:2], Locals: names[1:2], Body: impl.Expr{Kind: impl.ExprBlock, Kids: kids[:1]}}}}
	if got := checkPrintUnit(t, u); got != "record r(a, b)\nglobal a\nprocedure p(a, b)\nlocal b;\nx;\nend\n" {
		t.Errorf("PrintUnit gives %q", got)
	}
	if !reflect.DeepEqual(kids, before) || !slices.Equal(names, beforeNames) {
		t.Errorf("the memory behind the lists was changed: %v, %v", kids, names)
	}
}

func TestPrinterKeepsNoState(t *testing.T) {
	bad := impl.Expr{Kind: impl.ExprUnary, Text: "-"}
	for range 3 {
		checkForm(t, treeOf(impl.ExprUnary, "-", treeOf(impl.ExprUnary, "-", nameOf("a"))), "-(-a)")
		checkRefused(t, bad)
		checkForm(t, treeOf(impl.ExprReturn, ""), "return")
		checkForm(t, treeOf(impl.ExprReturn, "", nameOf("b")), "return b")
		if got := checkPrintUnit(t, impl.Unit{Globals: []string{"g"}}); got != "global g\n" {
			t.Errorf("PrintUnit gives %q", got)
		}
		if got := checkPrintUnit(t, impl.Unit{}); got != "" {
			t.Errorf("PrintUnit of the empty unit is %q", got)
		}
		checkPrintUnit(t, sampleUnit())
		checkPrint(t, wholeProgram())
	}
}
