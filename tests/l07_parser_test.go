package tests

import (
	"fmt"
	"maps"
	"math"
	"math/rand/v2"
	"reflect"
	"slices"
	"strconv"
	"strings"
	"testing"
	"unsafe"

	"loop.example/g03106/impl"
)

const maxNesting = 200

// binaryLevels are the levels of the binary operators by the list of chapter 6.
var binaryLevels = levels()

// nodeWords are the words for the nodes that are neither leaves nor operators, by their kinds.
var nodeWords = map[int]string{
	impl.ExprList: "list", impl.ExprCall: "call", impl.ExprIndex: "index", impl.ExprSection: "section", impl.ExprField: "field.", impl.ExprBlock: "block",
	impl.ExprIf: "if", impl.ExprWhile: "while", impl.ExprUntil: "until", impl.ExprEvery: "every", impl.ExprRepeat: "repeat", impl.ExprCase: "case",
	impl.ExprReturn: "return", impl.ExprSuspend: "suspend", impl.ExprFail: "fail", impl.ExprBreak: "break", impl.ExprNext: "next", impl.ExprCreate: "create",
	impl.ExprNot: "not", impl.ExprDefer: "defer.", impl.ExprMutual: "mutual", impl.ExprUnary: "",
}

// form writes a tree without its lines: "(a + -(b))", "call(f, 1)", "case1(a, b)" for a case that has only a default.
func form(e impl.Expr) string {
	return formOf(e, func(int) string { return "" })
}

// linedForm is form with @ and the line behind the word or operator of each node.
func linedForm(e impl.Expr) string {
	return formOf(e, func(line int) string { return "@" + strconv.Itoa(line) })
}

func formOf(e impl.Expr, mark func(line int) string) string {
	at := mark(e.Line)
	var kids []string
	for _, kid := range e.Kids {
		kids = append(kids, formOf(kid, mark))
	}
	switch {
	case e.Kind == impl.ExprInteger:
		return strconv.Itoa(e.Number) + at
	case e.Kind == impl.ExprString:
		return strconv.Quote(e.Text) + at
	case e.Kind == impl.ExprCset:
		return "'" + e.Text + "'" + at
	case e.Kind == impl.ExprName:
		return e.Text + at
	case e.Kind == impl.ExprKeyword:
		return "&" + e.Text + at
	case e.Kind == impl.ExprBinary && len(kids) == 2:
		return "(" + kids[0] + " " + e.Text + at + " " + kids[1] + ")"
	case e.Kind == impl.ExprTo && len(kids) == 2:
		return "(" + kids[0] + " to" + at + " " + kids[1] + ")"
	case e.Kind == impl.ExprTo && len(kids) == 3:
		return "(" + kids[0] + " to" + at + " " + kids[1] + " by " + kids[2] + ")"
	case e.Kind == impl.ExprCase:
		at = strconv.Itoa(e.Number) + at
	}
	word, ok := nodeWords[e.Kind]
	if !ok {
		word = fmt.Sprintf("kind%d", e.Kind)
	}
	if len(kids) == 0 {
		return word + e.Text + at
	}
	return word + e.Text + at + "(" + strings.Join(kids, ", ") + ")"
}

// parsedExpression returns the results of ParseExpression after the checks that hold of all of them: a tree without an error is valid, and with an error comes the zero Expr.
func parsedExpression(t *testing.T, source string) (impl.Expr, int) {
	t.Helper()
	e, line := impl.ParseExpression(source)
	if line == 0 && (!impl.IsValidExpr(e) || !followRules(e) || countOf(e) > maxNodes || depthOf(e) > maxDepth) {
		t.Fatalf("ParseExpression(%.300q) is not valid: %.300s", source, linedForm(e))
	}
	if line != 0 && !sameTrees(e, impl.Expr{}) || line < 0 {
		t.Fatalf("ParseExpression(%.300q) = %.300s, %d", source, linedForm(e), line)
	}
	return e, line
}

// checkExpression expects the tree with a form.
func checkExpression(t *testing.T, source string, want string) {
	t.Helper()
	e, line := parsedExpression(t, source)
	if line != 0 || form(e) != want {
		t.Errorf("ParseExpression(%.300q) = %.600s, %d, want %.600s", source, form(e), line, want)
	}
}

// checkLined expects the tree with a form with lines.
func checkLined(t *testing.T, source string, want string) {
	t.Helper()
	e, line := parsedExpression(t, source)
	if line != 0 || linedForm(e) != want {
		t.Errorf("ParseExpression(%.300q) = %.600s, %d, want %.600s", source, linedForm(e), line, want)
	}
}

// checkExpressionError expects an error in a line.
func checkExpressionError(t *testing.T, source string, want int) {
	t.Helper()
	if e, line := parsedExpression(t, source); line != want {
		t.Errorf("ParseExpression(%.300q) = %.300s, %d, want an error in line %d", source, linedForm(e), line, want)
	}
}

// unitForm writes a unit with its lines; a body has the form of its block.
func unitForm(u impl.Unit) string {
	var parts []string
	for _, r := range u.Records {
		parts = append(parts, fmt.Sprintf("record@%d %s(%s)", r.Line, r.Name, strings.Join(r.Fields, " ")))
	}
	if len(u.Globals) > 0 {
		parts = append(parts, "global "+strings.Join(u.Globals, " "))
	}
	for _, p := range u.Procedures {
		parts = append(parts, fmt.Sprintf("procedure@%d %s(%s) [%s] %s", p.Line, p.Name, strings.Join(p.Params, " "), strings.Join(p.Locals, " "), linedForm(p.Body)))
	}
	return strings.Join(parts, "; ")
}

// parsedUnit is parsedExpression for ParseUnit.
func parsedUnit(t *testing.T, source string) (impl.Unit, int) {
	t.Helper()
	u, line := impl.ParseUnit(source)
	if line == 0 && (!impl.IsValidUnit(u) || !followUnitRules(u)) {
		t.Fatalf("ParseUnit(%.300q) is not valid: %.300s", source, unitForm(u))
	}
	if line != 0 && len(u.Records)+len(u.Globals)+len(u.Procedures) > 0 || line < 0 {
		t.Fatalf("ParseUnit(%.300q) = %.300s, %d", source, unitForm(u), line)
	}
	return u, line
}

// checkUnitSource expects the unit with a form.
func checkUnitSource(t *testing.T, source string, want string) {
	t.Helper()
	u, line := parsedUnit(t, source)
	if line != 0 || unitForm(u) != want {
		t.Errorf("ParseUnit(%.300q) = %.600s, %d, want %.600s", source, unitForm(u), line, want)
	}
}

// checkUnitError expects an error in a line.
func checkUnitError(t *testing.T, source string, want int) {
	t.Helper()
	if u, line := parsedUnit(t, source); line != want {
		t.Errorf("ParseUnit(%.300q) = %.300s, %d, want an error in line %d", source, unitForm(u), line, want)
	}
}

// followUnitRules is IsValidUnit by definition.
func followUnitRules(u impl.Unit) bool {
	isName := func(s string) bool { return ruleOf(impl.ExprName).text(s) }
	areNames := func(list []string, most int) bool {
		return len(list) <= most && !slices.ContainsFunc(list, func(s string) bool { return !isName(s) })
	}
	for _, r := range u.Records {
		if !isName(r.Name) || !areNames(r.Fields, 6) || r.Line < 0 {
			return false
		}
	}
	for _, p := range u.Procedures {
		if !isName(p.Name) || !areNames(p.Params, 6) || !areNames(p.Locals, 8) || p.Line < 0 || p.Body.Kind != 14 {
			return false
		}
		if !followRules(p.Body) || countOf(p.Body) > 600 || depthOf(p.Body) > 40 {
			return false
		}
	}
	return len(u.Records) <= 8 && areNames(u.Globals, 12) && len(u.Procedures) <= 12
}

// grammar reads tokens by the grammar of chapter 7, and tries all ways to do so. The ways in which a construct takes more come first.
type grammar struct {
	tokens   []impl.Token
	furthest int
	known    map[[2]int][]part
}

// part is a part of the tokens that can be read: where it ends and the nodes that it gives.
type part struct {
	end  int
	kids []impl.Expr
}

// phrase returns the parts that can be read from an index on, no two with one end.
type phrase func(at int) []part

// The kinds of nodes that only hold other ones together until they are used.
const (
	defaultBody = 1000 + iota
	nameGroup
)

// distinct keeps the first part with each end.
func distinct(parts []part) []part {
	var kept []part
	for _, p := range parts {
		if !slices.ContainsFunc(kept, func(other part) bool { return other.end == p.end }) {
			kept = append(kept, p)
		}
	}
	return kept
}

// look returns the token at an index, or the zero Token behind the last one. The tokens before the index have been read, so that they can be continued there.
func (g *grammar) look(at int) impl.Token {
	g.furthest = max(g.furthest, at)
	if at == len(g.tokens) {
		return impl.Token{}
	}
	return g.tokens[at]
}

// symbol is a reserved word or an operator.
func (g *grammar) symbol(text string) phrase {
	return func(at int) []part {
		if token := g.look(at); (token.Kind == 2 || token.Kind == 7) && token.Text == text {
			return []part{{end: at + 1}}
		}
		return nil
	}
}

// leaf is a token of a kind that is a node of a kind.
func (g *grammar) leaf(tokenKind int, kind int) phrase {
	return func(at int) []part {
		token := g.look(at)
		if token.Kind != tokenKind {
			return nil
		}
		node := impl.Expr{Kind: kind, Text: token.Text, Line: token.Line}
		if kind == impl.ExprInteger {
			node.Text = ""
			node.Number, _ = strconv.Atoi(token.Text)
		}
		return []part{{at + 1, []impl.Expr{node}}}
	}
}

func (g *grammar) name() phrase {
	return g.leaf(1, impl.ExprName)
}

// nothing is the empty phrase.
func nothing(at int) []part {
	return []part{{end: at}}
}

func sequence(phrases ...phrase) phrase {
	return func(at int) []part {
		parts := nothing(at)
		for _, p := range phrases {
			var longer []part
			for _, begun := range parts {
				for _, added := range p(begun.end) {
					longer = append(longer, part{added.end, slices.Concat(begun.kids, added.kids)})
				}
			}
			parts = distinct(longer)
		}
		return parts
	}
}

func either(phrases ...phrase) phrase {
	return func(at int) []part {
		var parts []part
		for _, p := range phrases {
			parts = append(parts, p(at)...)
		}
		return distinct(parts)
	}
}

func maybe(phrases ...phrase) phrase {
	return either(sequence(phrases...), nothing)
}

// many is any number of times what phrases give.
func many(phrases ...phrase) phrase {
	var again phrase
	again = func(at int) []part {
		return maybe(sequence(phrases...), again)(at)
	}
	return again
}

func (g *grammar) withCommas(p phrase) phrase {
	return sequence(p, many(g.symbol(","), p))
}

func (g *grammar) semicolons() phrase {
	return many(g.symbol(";"))
}

// statements are separated by semicolons, and each of them may be empty.
func (g *grammar) statements() phrase {
	return sequence(maybe(g.level(1)), many(g.symbol(";"), maybe(g.level(1))))
}

// node makes a node of the kids of a phrase. Its line is that of the first token.
func (g *grammar) node(kind int, phrases ...phrase) phrase {
	return func(at int) []part {
		parts := slices.Clone(sequence(phrases...)(at))
		for i, p := range parts {
			e := impl.Expr{Kind: kind, Kids: p.kids}
			if at < len(g.tokens) {
				e.Line = g.tokens[at].Line
			}
			parts[i].kids = []impl.Expr{e}
		}
		return parts
	}
}

// once keeps the parts of a phrase, whose number is its own.
func (g *grammar) once(number int, at int, p func() []part) []part {
	key := [2]int{number, at}
	parts, ok := g.known[key]
	if !ok {
		parts = p()
		g.known[key] = parts
	}
	return parts
}

// level is e(k).
func (g *grammar) level(k int) phrase {
	return func(at int) []part {
		return g.once(k, at, func() []part {
			var all []part
			met := map[int]bool{}
			for _, first := range g.unary(at) {
				all = append(all, g.continued(k, first, met)...)
			}
			return distinct(all)
		})
	}
}

// continued are the ways to go on in an e(k) behind a left operand, and then the left operand. The ends that have been met need not be continued again.
func (g *grammar) continued(k int, left part, met map[int]bool) []part {
	if met[left.end] {
		return nil
	}
	met[left.end] = true
	var all []part
	token := g.look(left.end)
	join := func(kind int, text string, rights []part) {
		for _, right := range rights {
			e := impl.Expr{Kind: kind, Text: text, Line: token.Line, Kids: slices.Concat(left.kids, right.kids)}
			all = append(all, g.continued(k, part{right.end, []impl.Expr{e}}, met)...)
		}
	}
	if b := binaryLevels[token.Text]; token.Kind == 7 && b >= k {
		if b == 3 || b == 10 {
			join(impl.ExprBinary, token.Text, g.level(b)(left.end+1))
		} else {
			join(impl.ExprBinary, token.Text, g.level(b+1)(left.end+1))
		}
	}
	if k <= 4 {
		join(impl.ExprTo, "", sequence(g.symbol("to"), g.level(5), maybe(g.symbol("by"), g.level(5)))(left.end))
	}
	return append(all, left)
}

// unary is a unary expression.
func (g *grammar) unary(at int) []part {
	return g.once(100, at, func() []part {
		token := g.look(at)
		all := g.node(impl.ExprNot, g.symbol("not"), g.unary)(at)
		if token.Kind == 7 && listed(unaryList, token.Text) {
			for _, operand := range g.unary(at + 1) {
				all = append(all, part{operand.end, []impl.Expr{{Kind: impl.ExprUnary, Text: token.Text, Line: token.Line, Kids: operand.kids}}})
			}
		}
		met := map[int]bool{}
		for _, first := range g.primary(at) {
			all = append(all, g.suffixed(first, met)...)
		}
		return distinct(all)
	})
}

// suffixed are the ways to go on with suffixes behind a primary, and then the primary.
func (g *grammar) suffixed(left part, met map[int]bool) []part {
	if met[left.end] {
		return nil
	}
	met[left.end] = true
	var all []part
	suffix := func(kind int, phrases ...phrase) {
		for _, right := range g.node(kind, phrases...)(left.end) {
			e := right.kids[0]
			if kind == impl.ExprField {
				e.Text, e.Kids = e.Kids[0].Text, nil
			}
			e.Kids = slices.Concat(left.kids, e.Kids)
			all = append(all, g.suffixed(part{right.end, []impl.Expr{e}}, met)...)
		}
	}
	suffix(impl.ExprCall, g.symbol("("), maybe(g.withCommas(g.level(1))), g.symbol(")"))
	suffix(impl.ExprIndex, g.symbol("["), g.level(1), g.symbol("]"))
	suffix(impl.ExprSection, g.symbol("["), g.level(1), g.symbol(":"), g.level(1), g.symbol("]"))
	suffix(impl.ExprField, g.symbol("."), g.name())
	return append(all, left)
}

// primary is a primary.
func (g *grammar) primary(at int) []part {
	e := g.level(1)
	optionalDo := maybe(g.symbol("do"), e)
	return either(
		g.name(), g.leaf(3, impl.ExprInteger), g.leaf(4, impl.ExprString), g.leaf(5, impl.ExprCset), g.leaf(6, impl.ExprKeyword),
		sequence(g.symbol("("), e, g.symbol(")")),
		g.node(impl.ExprMutual, g.symbol("("), e, g.symbol(","), g.withCommas(e), g.symbol(")")),
		g.node(impl.ExprList, g.symbol("["), maybe(g.withCommas(e)), g.symbol("]")),
		g.node(impl.ExprBlock, g.symbol("{"), g.statements(), g.symbol("}")),
		g.deferred,
		g.node(impl.ExprFail, g.symbol("fail")),
		g.node(impl.ExprNext, g.symbol("next")),
		g.node(impl.ExprIf, g.symbol("if"), e, g.symbol("then"), e, maybe(g.symbol("else"), e)),
		g.node(impl.ExprWhile, g.symbol("while"), e, optionalDo),
		g.node(impl.ExprUntil, g.symbol("until"), e, optionalDo),
		g.node(impl.ExprEvery, g.symbol("every"), e, optionalDo),
		g.node(impl.ExprRepeat, g.symbol("repeat"), e),
		g.node(impl.ExprCreate, g.symbol("create"), e),
		g.node(impl.ExprReturn, g.symbol("return"), g.ifBegun(e)),
		g.node(impl.ExprBreak, g.symbol("break"), g.ifBegun(e)),
		g.node(impl.ExprSuspend, g.symbol("suspend"), g.ifBegun(e, optionalDo)),
		g.choice,
	)(at)
}

// ifBegun is what phrases give if the next token can begin an expression, and nothing otherwise.
func (g *grammar) ifBegun(phrases ...phrase) phrase {
	return func(at int) []part {
		if begins(g.look(at)) {
			return sequence(phrases...)(at)
		}
		return nothing(at)
	}
}

// deferred is defer with a name.
func (g *grammar) deferred(at int) []part {
	parts := g.node(impl.ExprDefer, g.symbol("defer"), g.name())(at)
	for i := range parts {
		e := &parts[i].kids[0]
		e.Text, e.Kids = e.Kids[0].Text, nil
	}
	return parts
}

// choice is a case. Its branches have no default, or one at any place.
func (g *grammar) choice(at int) []part {
	e := g.level(1)
	branch := sequence(e, g.symbol(":"), e)
	other := g.node(defaultBody, g.symbol("default"), g.symbol(":"), e)
	between := sequence(g.symbol(";"), g.semicolons())
	branches := either(
		sequence(branch, many(between, branch), maybe(between, other, many(between, branch))),
		sequence(other, many(between, branch)),
	)
	parts := g.node(impl.ExprCase, g.symbol("case"), e, g.symbol("of"), g.symbol("{"), g.semicolons(), maybe(branches, g.semicolons()), g.symbol("}"))(at)
	for i := range parts {
		e := &parts[i].kids[0]
		isOther := func(kid impl.Expr) bool { return kid.Kind == defaultBody }
		if place := slices.IndexFunc(e.Kids, isOther); place >= 0 {
			e.Number = 1
			body := e.Kids[place].Kids[0]
			e.Kids = append(slices.Delete(slices.Clone(e.Kids), place, place+1), body)
		}
	}
	return parts
}

// read returns what a phrase that takes all tokens gives, or false and the index of the first token that cannot continue it.
func (g *grammar) read(p phrase) ([]impl.Expr, bool, int) {
	for _, found := range p(0) {
		if found.end == len(g.tokens) {
			return found.kids, true, 0
		}
	}
	return nil, false, g.furthest
}

// lineAt is the line of the error at the token with an index.
func lineAt(tokens []impl.Token, index int) int {
	if len(tokens) == 0 {
		return 1
	}
	return tokens[min(index, len(tokens)-1)].Line
}

// expressionByGrammar is what ParseExpression returns of a source that is not nested too deep, and whether more tokens may follow.
func expressionByGrammar(source string) (impl.Expr, int, bool) {
	tokens, line := impl.Lex(source)
	if line > 0 {
		return impl.Expr{}, line, false
	}
	g := &grammar{tokens: tokens, known: map[[2]int][]part{}}
	kids, ok, index := g.read(g.level(1))
	if !ok {
		return impl.Expr{}, lineAt(tokens, index), index == len(tokens)
	}
	e := kids[0]
	if !followRules(e) || countOf(e) > maxNodes || depthOf(e) > maxDepth {
		return impl.Expr{}, e.Line, true
	}
	return e, 0, true
}

// namesOf are the texts of nodes that are names.
func namesOf(nodes []impl.Expr) []string {
	var list []string
	for _, node := range nodes {
		list = append(list, node.Text)
	}
	return list
}

// declaration is one declaration and the semicolons behind it.
func (g *grammar) declaration(at int) []part {
	names := g.node(nameGroup, g.withCommas(g.name()))
	params := g.node(nameGroup, g.symbol("("), maybe(g.withCommas(g.name())), g.symbol(")"))
	locals := g.node(nameGroup, many(g.symbol("local"), g.withCommas(g.name()), g.semicolons()))
	body := g.node(impl.ExprBlock, g.statements())
	return sequence(either(
		sequence(g.symbol("record"), g.name(), params),
		sequence(g.symbol("global"), names),
		sequence(g.symbol("procedure"), g.name(), params, g.semicolons(), locals, body, g.symbol("end")),
	), g.semicolons())(at)
}

// declared adds what a declaration gives to a unit.
func declared(u impl.Unit, first impl.Token, kids []impl.Expr) impl.Unit {
	switch first.Text {
	case "record":
		u.Records = append(u.Records, impl.RecordType{Name: kids[0].Text, Fields: namesOf(kids[1].Kids), Line: first.Line})
	case "global":
		u.Globals = append(u.Globals, namesOf(kids[0].Kids)...)
	default:
		body := kids[3]
		body.Line = first.Line
		u.Procedures = append(u.Procedures, impl.Procedure{Name: kids[0].Text, Params: namesOf(kids[1].Kids), Locals: namesOf(kids[2].Kids), Body: body, Line: first.Line})
	}
	return u
}

// unitByGrammar is what ParseUnit returns of a source that is not nested too deep, and whether more tokens may follow. The first words of declarations stand nowhere else, so that the tokens can be divided at them.
func unitByGrammar(source string) (impl.Unit, int, bool) {
	tokens, line := impl.Lex(source)
	if line > 0 {
		return impl.Unit{}, line, false
	}
	isFirst := func(token impl.Token) bool { return token.Kind == 2 && listed("record global procedure", token.Text) }
	start := 0
	for start < len(tokens) && tokens[start].Kind == 7 && tokens[start].Text == ";" {
		start++
	}
	var u impl.Unit
	for start < len(tokens) {
		if !isFirst(tokens[start]) {
			return impl.Unit{}, tokens[start].Line, false
		}
		end := start + 1
		for end < len(tokens) && !isFirst(tokens[end]) {
			end++
		}
		g := &grammar{tokens: tokens[start:end], known: map[[2]int][]part{}}
		kids, ok, index := g.read(g.declaration)
		if !ok {
			// Behind a complete declaration, the unit is looked at before the next token.
			if kids, size := g.longest(); size > 0 && !followUnitRules(declared(u, tokens[start], kids)) {
				return impl.Unit{}, tokens[start].Line, false
			}
			return impl.Unit{}, lineAt(tokens, start+index), start+index == len(tokens)
		}
		u = declared(u, tokens[start], kids)
		if !followUnitRules(u) {
			return impl.Unit{}, tokens[start].Line, false
		}
		start = end
	}
	return u, 0, true
}

// longest is the longest declaration that stands at the start and has been left at the token that cannot continue.
func (g *grammar) longest() ([]impl.Expr, int) {
	for _, found := range g.declaration(0) {
		if found.end == g.furthest {
			return found.kids, found.end
		}
	}
	return nil, 0
}

// checkByGrammar compares both functions with the grammar. It reports whether the source is right for one of them, and whether it is, or can become so with more tokens.
func checkByGrammar(t *testing.T, source string) (bool, bool) {
	t.Helper()
	want, wantLine, open := expressionByGrammar(source)
	e, line := parsedExpression(t, source)
	if line != wantLine || !sameTrees(e, want) {
		t.Fatalf("ParseExpression(%.300q) = %.400s, %d, want %.400s, %d", source, linedForm(e), line, linedForm(want), wantLine)
	}
	wantUnit, wantUnitLine, openUnit := unitByGrammar(source)
	u, unitLine := parsedUnit(t, source)
	if unitLine != wantUnitLine || unitForm(u) != unitForm(wantUnit) {
		t.Fatalf("ParseUnit(%.300q) = %.400s, %d, want %.400s, %d", source, unitForm(u), unitLine, unitForm(wantUnit), wantUnitLine)
	}
	return line == 0 || unitLine == 0, open || openUnit
}

// byOperators is the form of operands with binary operators, to and by between them: they are divided at the operator of the lowest level, at the last one of the level, or at the first one of the levels 3 and 10.
func byOperators(words []string) string {
	if len(words) == 1 {
		return words[0]
	}
	level := func(i int) int {
		switch words[i] {
		case "to":
			return 4
		case "by":
			return math.MaxInt
		}
		return binaryLevels[words[i]]
	}
	root := 1
	for i := 3; i < len(words); i += 2 {
		if level(i) < level(root) || level(i) == level(root) && level(i) != 3 && level(i) != 10 {
			root = i
		}
	}
	left, right := byOperators(words[:root]), words[root+1:]
	if by := slices.Index(right, "by"); words[root] == "to" && by > 0 {
		return "(" + left + " to " + byOperators(right[:by]) + " by " + byOperators(right[by+1:]) + ")"
	}
	return "(" + left + " " + words[root] + " " + byOperators(right) + ")"
}

// withOperands puts names around operators, and between them.
func withOperands(operators []string) []string {
	words := []string{"a"}
	for i, operator := range operators {
		words = append(words, operator, string("bcdefghij"[i%9]))
	}
	return words
}

func TestParserConstants(t *testing.T) {
	if impl.MaxNesting != maxNesting {
		t.Errorf("MaxNesting is %d", impl.MaxNesting)
	}
}

func TestPairsOfBinaryOperators(t *testing.T) {
	operators := append(slices.Sorted(maps.Keys(binaryLevels)), "to")
	if len(operators) != 49 {
		t.Fatalf("%d operators", len(operators))
	}
	for _, one := range operators {
		for _, other := range operators {
			words := withOperands([]string{one, other})
			checkExpression(t, strings.Join(words, " "), byOperators(words))
		}
	}
}

// The levels in the order of the chapter, written out.
func TestLevelsOfOperators(t *testing.T) {
	cases := [][2]string{
		{"a & b ? c := d to e | f < g || h + i * j ^ k -> l", "(a & (b ? (c := (d to (e | (f < (g || (h + (i * (j ^ (k -> l)))))))))))"},
		{"a -> b ^ c * d + e || f < g | h to i := j ? k & l", "(((((((((((a -> b) ^ c) * d) + e) || f) < g) | h) to i) := j) ? k) & l)"},
		{"a & b & c", "((a & b) & c)"}, {"a ? b ? c", "((a ? b) ? c)"}, {"a := b := c", "(a := (b := c))"}, {"a <- b :=: c <-> d +:= e", "(a <- (b :=: (c <-> (d +:= e))))"},
		{"a to b to c", "((a to b) to c)"}, {"a | b .| c", "((a | b) .| c)"}, {"a < b = c", "((a < b) = c)"}, {"a || b ||| c", "((a || b) ||| c)"}, {"a + b - c ++ d -- e", "((((a + b) - c) ++ d) -- e)"},
		{"a * b / c % d ** e", "((((a * b) / c) % d) ** e)"}, {"a ^ b ^ c", "(a ^ (b ^ c))"}, {"a \\ b -> c => d", "(((a \\ b) -> c) => d)"},
		{"a ^ b * c ^ d", "((a ^ b) * (c ^ d))"}, {"a ^ b \\ c ^ d", "(a ^ ((b \\ c) ^ d))"}, {"a := b & c := d", "((a := b) & (c := d))"}, {"a | b := c | d", "((a | b) := (c | d))"},
		{"a to b by c", "(a to b by c)"}, {"a to b by c to d", "((a to b by c) to d)"}, {"a to b to c by d", "((a to b) to c by d)"}, {"a to b by c to d by e", "((a to b by c) to d by e)"},
		{"a := b to c by d", "(a := (b to c by d))"}, {"a to b := c to d by e", "((a to b) := (c to d by e))"}, {"a to b by c := d", "((a to b by c) := d)"}, {"a to b & c", "((a to b) & c)"}, {"a ? b to c by d", "(a ? (b to c by d))"},
		{"a | b to c | d by e | f", "((a | b) to (c | d) by (e | f))"}, {"a + b to c + d by e + f", "((a + b) to (c + d) by (e + f))"}, {"a to b < c", "(a to (b < c))"}, {"a < b to c", "((a < b) to c)"}, {"a ^ b to c ^ d by e ^ f", "((a ^ b) to (c ^ d) by (e ^ f))"},
		{"a to (b to c) by d", "(a to (b to c) by d)"}, {"a to (b to c by d) by e", "(a to (b to c by d) by e)"}, {"a to (b := c) by (d & e)", "(a to (b := c) by (d & e))"}, {"a + (b to c)", "(a + (b to c))"}, {"(a to b) + c", "((a to b) + c)"},
		{"a - b - c", "((a - b) - c)"}, {"a - (b - c)", "(a - (b - c))"}, {"(a := b) := c", "((a := b) := c)"}, {"(a ^ b) ^ c", "((a ^ b) ^ c)"}, {"a-b*c-d", "((a - (b * c)) - d)"}, {"a<=b", "(a <= b)"}, {"a|||:=b|||c", "(a |||:= (b ||| c))"},
	}
	for _, c := range cases {
		checkExpression(t, c[0], c[1])
	}
}

func TestRandomOperators(t *testing.T) {
	random := rand.New(rand.NewPCG(7, 1))
	operators := append(slices.Sorted(maps.Keys(binaryLevels)), "to", "to", "to", "to", "to", ":=", "^", "&", "?", ":=", "^")
	for range 30000 {
		var list []string
		// open means that a to takes a by here.
		open := false
		for range random.IntN(9) {
			operator := operators[random.IntN(len(operators))]
			if open && random.IntN(3) == 0 {
				operator = "by"
			}
			open = operator == "to" || open && binaryLevels[operator] >= 5
			list = append(list, operator)
		}
		words := withOperands(list)
		checkExpression(t, strings.Join(words, " "), byOperators(words))
	}
}

func TestUnaryOperators(t *testing.T) {
	for _, unary := range strings.Fields(unaryList) {
		checkExpression(t, unary+" a", unary+"(a)")
		checkExpression(t, unary+" "+unary+" a", unary+"("+unary+"(a))")
		checkExpression(t, "not "+unary+" not a", "not("+unary+"(not(a)))")
		checkExpression(t, unary+" a.b(c)[d]", unary+"(index(call(field.b(a), c), d))")
		checkExpression(t, "("+unary+" a)(b)", "call("+unary+"(a), b)")
		checkExpression(t, unary+" (a + b)", unary+"((a + b))")
		checkExpression(t, unary+" [a]", unary+"(list(a))")
		checkExpression(t, unary+" if a then b", unary+"(if(a, b))")
		checkExpression(t, "a("+unary+" b)", "call(a, "+unary+"(b))")
		checkExpression(t, unary+" a to "+unary+" b by "+unary+" c", "("+unary+"(a) to "+unary+"(b) by "+unary+"(c))")
		checkExpressionError(t, unary, 1)
		checkExpressionError(t, unary+"\n)", 2)
		for _, binary := range slices.Sorted(maps.Keys(binaryLevels)) {
			checkExpression(t, unary+" a "+binary+" b", "("+unary+"(a) "+binary+" b)")
			checkExpression(t, "a "+binary+" "+unary+" b", "(a "+binary+" "+unary+"(b))")
			checkExpression(t, "a "+binary+" "+unary+" b "+binary+" c", byOperators([]string{"a", binary, unary + "(b)", binary, "c"}))
			checkExpression(t, "not a "+binary+" not b", "(not(a) "+binary+" not(b))")
		}
	}
	for _, word := range wordsOf(operatorList, reservedList) {
		if !listed(unaryList, word) && !listed(beginningWords, word) && !listed("( [ {", word) {
			checkExpressionError(t, word+" a\n)", 1)
			checkExpressionError(t, "-\n"+word+" a\n\n)", 2)
		}
	}
	for _, c := range [][2]string{
		{"-a^b", "(-(a) ^ b)"}, {"a^-b^c", "(a ^ (-(b) ^ c))"}, {"not a = b", "(not(a) = b)"}, {"not (a = b)", "not((a = b))"}, {"not not a", "not(not(a))"}, {"- - a", "-(-(a))"}, {"a - -b", "(a - -(b))"},
		{"\\a\\b", "(\\(a) \\ b)"}, {".a.b", ".(field.b(a))"}, {".>a=>b", "(.>(a) => b)"}, {"*a*b", "(*(a) * b)"}, {"~a~=b", "(~(a) ~= b)"}, {"|a||b", "(|(a) || b)"}, {"@f(a)", "@(call(f, a))"}, {"=a==b", "(=(a) == b)"},
	} {
		checkExpression(t, c[0], c[1])
	}
}

func TestOrdinaryExpressions(t *testing.T) {
	cases := [][2]string{
		{"a", "a"}, {"007", "7"}, {"0", "0"}, {"999999999999", "999999999999"}, {`"a\n\"b"`, `"a\n\"b"`}, {`""`, `""`}, {"'banana'", "'abn'"}, {"''", "''"}, {"&subject", "&subject"}, {"&fail", "&fail"}, {"fail", "fail"}, {"next", "next"},
		{"(a)", "a"}, {"((a))", "a"}, {"(a, b)", "mutual(a, b)"}, {"(a, b, c, d, e, f, g, h)", "mutual(a, b, c, d, e, f, g, h)"}, {"((a, b), (c))", "mutual(mutual(a, b), c)"}, {"(a & b, c := d)", "mutual((a & b), (c := d))"},
		{"[]", "list"}, {"[a]", "list(a)"}, {"[a, [b], 1 to 2]", "list(a, list(b), (1 to 2))"}, {"[(a, b), []]", "list(mutual(a, b), list)"}, {"[a & b, c]", "list((a & b), c)"},
		{"{}", "block"}, {"{a}", "block(a)"}, {"{a; b}", "block(a, b)"}, {"{;}", "block"}, {"{;;;}", "block"}, {"{;;a;;b;;}", "block(a, b)"}, {"{a;}", "block(a)"}, {"{;a}", "block(a)"}, {"{{};{;}}", "block(block, block)"},
		{"{\na\nb\n\nc\n}", "block(a, b, c)"}, {"{a\n- b}", "block(a, -(b))"}, {"{a -\n b}", "block((a - b))"}, {"{a\n& b}", "block((a & b))"}, {"{a\n(b)}", "block(a, b)"}, {"{return\na}", "block(return, a)"}, {"{return; a}", "block(return, a)"},
		{"f()", "call(f)"}, {"f(a)", "call(f, a)"}, {"f(a, b, c, d, e, f, g, h)", "call(f, a, b, c, d, e, f, g, h)"}, {"f((a, b))", "call(f, mutual(a, b))"}, {"f(a & b, [c])", "call(f, (a & b), list(c))"}, {"f()()", "call(call(f))"},
		{"f(a)(b)[c].d[1:2](e)", "call(section(field.d(index(call(call(f, a), b), c)), 1, 2), e)"}, {"a.b.c", "field.c(field.b(a))"}, {"a . b", "field.b(a)"}, {"1.b", "field.b(1)"}, {"a.null", "field.null(a)"},
		{"a[i]", "index(a, i)"}, {"a[i:j]", "section(a, i, j)"}, {"a[i := 1 : j := 2]", "section(a, (i := 1), (j := 2))"}, {"a[-1:0]", "section(a, -(1), 0)"}, {"a[b[c]]", "index(a, index(b, c))"}, {"a[b[c:d]:e[f]]", "section(a, section(b, c, d), index(e, f))"},
		{"a[1 to 2]", "index(a, (1 to 2))"}, {"a[b & c : d & e]", "section(a, (b & c), (d & e))"}, {"a[[b]]", "index(a, list(b))"}, {"a[b][c]", "index(index(a, b), c)"}, {"[a][b]", "index(list(a), b)"}, {"{a}(b)", "call(block(a), b)"}, {"(a, b)(c)", "call(mutual(a, b), c)"}, {"(a)(b)", "call(a, b)"},
		{"\"f\"(a)", "call(\"f\", a)"}, {"'f'[a]", "index('f', a)"}, {"3(a, b)", "call(3, a, b)"}, {"&subject[1]", "index(&subject, 1)"}, {"fail(a)", "call(fail, a)"}, {"next[a]", "index(next, a)"}, {"fail | next", "(fail | next)"},
		{"defer a", "defer.a"}, {"defer a(b)", "call(defer.a, b)"}, {"defer a.b", "field.b(defer.a)"}, {"- defer a | b", "(-(defer.a) | b)"}, {"defer null", "defer.null"},
		{"a(\"(\", \")\", ',')", "call(a, \"(\", \")\", ',')"}, {"[\"to\", \"by\", \"]\"]", "list(\"to\", \"by\", \"]\")"}, {"{\"}\"; \";\"}", "block(\"}\", \";\")"},
	}
	for _, c := range cases {
		checkExpression(t, c[0], c[1])
		checkExpression(t, " \t\n# comment\n"+c[0]+"\n# comment", c[1])
		checkExpression(t, "("+c[0]+")", c[1])
		checkExpression(t, "[x, "+c[0]+"]", "list(x, "+c[1]+")")
	}
}

func TestConstructs(t *testing.T) {
	cases := [][2]string{
		{"if a then b", "if(a, b)"}, {"if a then b else c", "if(a, b, c)"}, {"if a then if b then c else d", "if(a, if(b, c, d))"}, {"if a then if b then c else d else e", "if(a, if(b, c, d), e)"}, {"if if a then b then c", "if(if(a, b), c)"}, {"if if a then b else c then d else e", "if(if(a, b, c), d, e)"},
		{"if a then while b do c else d", "if(a, while(b, c), d)"}, {"if a then (if b then c) else d", "if(a, if(b, c), d)"}, {"if a then b else if c then d else e", "if(a, b, if(c, d, e))"}, {"if a & b then c | d else e := f", "if((a & b), (c | d), (e := f))"}, {"if a then b + if c then d else e + f", "if(a, (b + if(c, d, (e + f))))"},
		{"if a then return else b", "if(a, return, b)"}, {"if a then return b else c", "if(a, return(b), c)"}, {"if a then repeat b else c", "if(a, repeat(b), c)"}, {"if a then b(c)", "if(a, call(b, c))"}, {"(if a then b)(c)", "call(if(a, b), c)"}, {"if a then {b} else {c}", "if(a, block(b), block(c))"},
		{"while a", "while(a)"}, {"while a do b", "while(a, b)"}, {"until a", "until(a)"}, {"until a do b", "until(a, b)"}, {"every a", "every(a)"}, {"every a do b", "every(a, b)"}, {"every a := 1 to 9 by 2 do f(a)", "every((a := (1 to 9 by 2)), call(f, a))"},
		{"every while a do b", "every(while(a, b))"}, {"every while a do b do c", "every(while(a, b), c)"}, {"while a do every b do c", "while(a, every(b, c))"}, {"while until every a do b do c do d", "while(until(every(a, b), c), d)"}, {"while if a then b do c", "while(if(a, b), c)"}, {"while a do if b then c", "while(a, if(b, c))"}, {"while (every a) do b", "while(every(a), b)"},
		{"repeat a | b", "repeat((a | b))"}, {"create a to b", "create((a to b))"}, {"create repeat a", "create(repeat(a))"}, {"while repeat a do b", "while(repeat(a), b)"}, {"repeat a.b", "repeat(field.b(a))"}, {"create a & b", "create((a & b))"}, {"repeat {}", "repeat(block)"}, {"@create a", "@(create(a))"},
		{"not if a then b", "not(if(a, b))"}, {"a + if b then c", "(a + if(b, c))"}, {"a := return b", "(a := return(b))"}, {"- if a then b else c + d", "-(if(a, b, (c + d)))"}, {"1 to if a then 2 to 3 by 4 by 5", "(1 to if(a, (2 to 3 by 4)) by 5)"}, {"not while a do b & c", "not(while(a, (b & c)))"}, {"a ^ repeat b := c", "(a ^ repeat((b := c)))"}, {"(if a then b) + c", "(if(a, b) + c)"}, {"a -> create b & c", "(a -> create((b & c)))"},
	}
	for _, c := range cases {
		checkExpression(t, c[0], c[1])
		checkExpression(t, strings.ReplaceAll(c[0], " ", "\t "), c[1])
		checkExpression(t, "{"+c[0]+"; x}", "block("+c[1]+", x)")
	}
}

func TestReturnBreakAndSuspend(t *testing.T) {
	for _, word := range []string{"return", "break", "suspend"} {
		for _, c := range [][2]string{
			{"#", "#"}, {"# a", "#(a)"}, {"# a & b", "#((a & b))"}, {"# & a", "(# & a)"}, {"# % a", "(# % a)"}, {"# := a", "(# := a)"}, {"# to 2", "(# to 2)"}, {"1 to # by 2", "(1 to # by 2)"}, {"1 to # 2 to 3 by 4 by 5", "(1 to #((2 to 3 by 4)) by 5)"},
			{"# - a", "#(-(a))"}, {"# - a - b", "#((-(a) - b))"}, {"# (a)", "#(a)"}, {"# (a)(b)", "#(call(a, b))"}, {"# [a]", "#(list(a))"}, {"# [a][b]", "#(index(list(a), b))"}, {"#.f", "#(.(f))"}, {"# {}", "#(block)"}, {"# not a", "#(not(a))"}, {"# \"a\"", "#(\"a\")"}, {"# 'a'", "#('a')"}, {"# &pos", "#(&pos)"}, {"# 1", "#(1)"},
			{"# #", "#(#)"}, {"# # a", "#(#(a))"}, {"# fail", "#(fail)"}, {"# next", "#(next)"}, {"# case a of {}", "#(case0(a))"}, {"# defer a", "#(defer.a)"}, {"# if a then b else c", "#(if(a, b, c))"}, {"# create a", "#(create(a))"}, {"# repeat a", "#(repeat(a))"},
			{"if # then # else #", "if(#, #, #)"}, {"{#; a}", "block(#, a)"}, {"{#\na}", "block(#, a)"}, {"{#\n\n}", "block(#)"}, {"(#, a)", "mutual(#, a)"}, {"f(#)", "call(f, #)"}, {"[#]", "list(#)"}, {"a[#:#]", "section(a, #, #)"}, {"(#)(a)", "call(#, a)"}, {"case # of {# : #}", "case0(#, #, #)"}, {"not #", "not(#)"}, {"while # do a", "while(#, a)"}, {"until # do #", "until(#, #)"}, {"(#) - a", "(# - a)"},
		} {
			checkExpression(t, strings.ReplaceAll(c[0], "#", word), strings.ReplaceAll(c[1], "#", word))
		}
		checkExpressionError(t, word+"\n)", 2)
		checkExpressionError(t, word+"\na", 1)
		checkExpressionError(t, word+" a b\n)", 1)
		checkExpressionError(t, word+"\ndo a", 2)
		checkExpressionError(t, word+"\nthen a", 2)
	}
	for _, c := range [][2]string{
		{"suspend a do b", "suspend(a, b)"}, {"while suspend do a", "while(suspend, a)"}, {"while suspend a do b", "while(suspend(a, b))"}, {"while suspend a do b do c", "while(suspend(a, b), c)"}, {"suspend suspend a do b do c", "suspend(suspend(a, b), c)"}, {"suspend suspend do a", "suspend(suspend, a)"}, {"suspend return do a", "suspend(return, a)"},
		{"suspend - a do b", "suspend(-(a), b)"}, {"suspend a & b do c | d", "suspend((a & b), (c | d))"}, {"every suspend while a do b do c do d", "every(suspend(while(a, b), c), d)"}, {"every return suspend do a", "every(return(suspend), a)"}, {"suspend a do return", "suspend(a, return)"}, {"if a then suspend b do c else d", "if(a, suspend(b, c), d)"},
		{"while return a do b", "while(return(a), b)"}, {"while break do a", "while(break, a)"}, {"while break a do b", "while(break(a), b)"}, {"every break suspend a do b", "every(break(suspend(a, b)))"},
	} {
		checkExpression(t, c[0], c[1])
	}
	for _, wrong := range []string{"suspend do x", "(suspend do x)", "{suspend do x}", "suspend do", "suspend a do", "suspend a do b do c", "return a do b", "break a do b", "while suspend do a do b", "suspend & do a"} {
		checkExpressionError(t, wrong, 1)
	}
}

func TestCases(t *testing.T) {
	for _, c := range [][2]string{
		{"case a of {}", "case0(a)"}, {"case a of {;}", "case0(a)"}, {"case a of {;;;}", "case0(a)"}, {"case a of {1 : b}", "case0(a, 1, b)"}, {"case a of {;;1 : b;; 2 : c;;}", "case0(a, 1, b, 2, c)"}, {"case a of {1 : b; 2 : c}", "case0(a, 1, b, 2, c)"}, {"case a of {1:2;}", "case0(a, 1, 2)"},
		{"case a of {default : b}", "case1(a, b)"}, {"case a of {;default : b;}", "case1(a, b)"}, {"case a of {default : b; 1 : c}", "case1(a, 1, c, b)"}, {"case a of {1 : b; default : c; 2 : d}", "case1(a, 1, b, 2, d, c)"}, {"case a of {1 : b; default : c}", "case1(a, 1, b, c)"}, {"case a of {1 : b; ; default : c; 2 : d; 3 : e;}", "case1(a, 1, b, 2, d, 3, e, c)"},
		{"case a of {b | c : d & e}", "case0(a, (b | c), (d & e))"}, {"case a & b of {c := d : e := f}", "case0((a & b), (c := d), (e := f))"}, {"case a of {[b] : [c]}", "case0(a, list(b), list(c))"}, {"case a of {b[1:2] : c[3:4]}", "case0(a, section(b, 1, 2), section(c, 3, 4))"}, {"case a of {{} : {}}", "case0(a, block, block)"},
		{"case case a of {} of {}", "case0(case0(a))"}, {"case a of {1 : case b of {default : 2}; default : 3}", "case1(a, 1, case1(b, 2), 3)"}, {"case a of {default : case b of {default : 2}}", "case1(a, case1(b, 2))"}, {"case a of {case b of {default : 2} : 3; default : 4}", "case1(a, case1(b, 2), 3, 4)"}, {"case a of {if b then c else d : return}", "case0(a, if(b, c, d), return)"},
		{"case a of {\n1 : b\n2 : c;\ndefault : d\n}", "case1(a, 1, b, 2, c, d)"}, {"case a of {default : b\n1 : c\n\n\"2\" : d\n}", "case1(a, 1, c, \"2\", d, b)"}, {"case\na\nof\n{\n;\n1\n:\nb\n;\n}", "case0(a, 1, b)"}, {"case return of {}", "case0(return)"},
		{"case a of {}(b)", "call(case0(a), b)"}, {"case a of {}[b]", "index(case0(a), b)"}, {"case a of {}.b", "field.b(case0(a))"}, {"case a of {} + b", "(case0(a) + b)"}, {"- case a of {}", "-(case0(a))"}, {"case a of {\"default\" : b; default : c}", "case1(a, \"default\", b, c)"}, {"while case a of {1 : while b} do c", "while(case0(a, 1, while(b)), c)"},
		{"case a of {1:b;2:c;3:d;4:e;5:f;6:g;default:h}", "case1(a, 1, b, 2, c, 3, d, 4, e, 5, f, 6, g, h)"}, {"case a of {1:b;2:c;3:d;4:e;5:f;6:g}", "case0(a, 1, b, 2, c, 3, d, 4, e, 5, f, 6, g)"}, {"case a of {default:h;1:b;2:c;3:d;4:e;5:f;6:g}", "case1(a, 1, b, 2, c, 3, d, 4, e, 5, f, 6, g, h)"},
	} {
		checkExpression(t, c[0], c[1])
	}
	for _, c := range []struct {
		source string
		line   int
	}{
		{"case\nof {}", 2}, {"case a\n{}", 1}, {"case a\nthen {}", 2}, {"case a of\n}", 2}, {"case a of\n1 : b", 2}, {"case a of {1\n}", 2}, {"case a of {1 :\n}", 2}, {"case a of {\n: b}", 2}, {"case a of {1 : b\n:= c\n: d}", 3}, {"case a of {1 : b\n, 2 : c}", 2}, {"case a of {1 : b 2 : c\n}", 1}, {"case a of {1 : b; 2\n}", 2}, {"case a of {1 : b\n2\n}", 3},
		{"case a of {default : b;\ndefault : c}", 2}, {"case a of {default : b; 1 : c;\ndefault : d}", 2}, {"case a of {default : b\ndefault : c}", 2}, {"case a of {1 : b\ndefault : c}", 2}, {"case a of {1 : b default : c\n}", 1}, {"case a of {default\nb}", 2}, {"case a of {default :\n}", 2}, {"case a of {default\n}", 2}, {"case a of {default : b\n: c}", 2},
		{"case a of {1 : b; default :\ndefault}", 2}, {"case\ndefault of {}", 2}, {"case a of {1 :\ndefault : b}", 2}, {"case a of {}\nof {}", 2}, {"case a of {}\n}", 2}, {"case a of {1 : b\n)", 2}, {"case a of {1 : b\n", 1}, {"case\na\nof\n{\n", 4}, {"case\na\nof", 3}, {"case\na", 2}, {"case", 1}, {"case a of {1 : b\n;", 2}, {"case a of {default\n", 1}, {"case a of {default :\n\n", 1},
		{"case a of {1:b;2:c;3:d;4:e;5:f;6:g;\n7:h}", 1}, {"x &\ncase a of {1:b;2:c;3:d;4:e;5:f;6:g;\n7:h}", 1}, {"x\n& case a of {1:b;2:c;3:d;4:e;5:f;6:g;\n7:h;default:i}", 2},
	} {
		checkExpressionError(t, c.source, c.line)
	}
}

func TestLinesOfNodes(t *testing.T) {
	for _, c := range [][2]string{
		{"a +\nb", "(a@1 +@1 b@2)"}, {"a\n:=\nb", "(a@1 :=@2 b@3)"}, {"a\nto\nb\nby\nc", "(a@1 to@2 b@3 by c@5)"}, {"a\nto\nb", "(a@1 to@2 b@3)"}, {"a\n&\nb\n&\nc", "((a@1 &@2 b@3) &@4 c@5)"}, {"a\n:=\nb\n:=\nc", "(a@1 :=@2 (b@3 :=@4 c@5))"}, {"(\na\n&\nb\n)\n? c", "((a@2 &@3 b@4) ?@6 c@6)"},
		{"\n7", "7@2"}, {"\n\n\"a\"", "\"a\"@3"}, {"# a\n'b' # c\n", "'b'@2"}, {"\n \n&null", "&null@3"}, {"\nfail", "fail@2"}, {"\nnext\n", "next@2"}, {"defer\na", "defer.a@1"}, {"(\n(\na\n)\n)", "a@3"}, {"(\na\n,\nb\n)", "mutual@1(a@2, b@4)"}, {"\n(\n(a\n,\nb)\n)", "mutual@3(a@3, b@5)"},
		{"[\n]", "list@1"}, {"[\na\n,\nb\n]", "list@1(a@2, b@4)"}, {"{\n\na\nb\n}", "block@1(a@3, b@4)"}, {"\n{\n;\n}", "block@2"}, {"-\na", "-@1(a@2)"}, {"not\nnot\na", "not@1(not@2(a@3))"}, {"\n-\n-\na", "-@2(-@3(a@4))"},
		{"f(\na\n,\nb\n)", "call@1(f@1, a@2, b@4)"}, {"[\n](a)", "call@2(list@1, a@2)"}, {"[\n][b]", "index@2(list@1, b@2)"}, {"[\n][b\n:\nc]", "section@2(list@1, b@2, c@4)"}, {"[\n].f", "field.f@2(list@1)"}, {"[\n] .\nf", "field.f@2(list@1)"}, {"{\n}(\na\n)[\nb\n].\nc", "field.c@6(index@4(call@2(block@1, a@3), b@5))"}, {"(\n\na)(b)", "call@3(a@3, b@3)"},
		{"if\na\nthen\nb\nelse\nc", "if@1(a@2, b@4, c@6)"}, {"x &\nif a then\nb", "(x@1 &@1 if@2(a@2, b@3))"}, {"\nwhile\na\ndo\nb", "while@2(a@3, b@5)"}, {"\nwhile\na", "while@2(a@3)"}, {"until\na\ndo\nb", "until@1(a@2, b@4)"}, {"every\na\ndo\nb", "every@1(a@2, b@4)"}, {"repeat\na", "repeat@1(a@2)"}, {"\ncreate\na", "create@2(a@3)"},
		{"\nreturn", "return@2"}, {"\nreturn (\na)", "return@2(a@3)"}, {"\nbreak", "break@2"}, {"break -\na", "break@1(-@1(a@2))"}, {"\nsuspend", "suspend@2"}, {"suspend -\na\ndo\nb", "suspend@1(-@1(a@2), b@4)"}, {"\n\ncase\na\nof\n{\n1\n:\nb\n;\ndefault\n:\nc\n}", "case1@3(a@4, 1@7, b@9, c@13)"}, {"case a of {\ndefault : b\n1 : c\n}", "case1@1(a@1, 1@3, c@3, b@2)"},
	} {
		checkLined(t, c[0], c[1])
	}
}

func TestLinesOfErrors(t *testing.T) {
	for _, c := range []struct {
		source string
		line   int
	}{
		{")", 1}, {"\n\n)", 3}, {"\n+", 2}, {"# a\nthen", 2}, {"to 1", 1}, {"\n:= a", 2}, {";", 1}, {"\n;\na", 2}, {"\n, a", 2}, {"\n\n\n: a", 4}, {"]", 1}, {"}", 1}, {"\nend", 2}, {"\nlocal a", 2}, {"procedure p() end", 1}, {"\ndefault : a", 2}, {"--a", 1}, {"-\n--a", 2},
		{"a +\n)\n", 2}, {"a b", 1}, {"a\n\nb", 1}, {"a +\nb\nc", 2}, {"(\na\nb\n)", 2}, {"a\n(b)", 1}, {"f(\na\nb\n)", 2}, {"[a,\nb\nc]", 2}, {"a[\n1\n2]", 2}, {"if a\nb then c", 1}, {"if a then\nb\nc", 2}, {"if a\n, b", 2}, {"if a\nelse b", 2}, {"while a\nthen b", 2},
		{"(1", 1}, {"a +", 1}, {"a +\n\n", 1}, {"a :=\nb +\n\n# c", 2}, {"if a\nthen", 2}, {"if\na\n", 2}, {"if", 1}, {"if a then b\nelse\n\n", 2}, {"[a,\nb", 2}, {"a[\n1 :", 2}, {"a[\n1\n", 2}, {"a[", 1}, {"a.", 1}, {"a\n.", 1}, {"a .\n", 1}, {"defer", 1}, {"-\n-\n-", 3}, {"not", 1}, {"not\nnot\n", 2}, {"{a\n;", 2}, {"{\n", 1}, {"{a\n", 1}, {"f(\n", 1}, {"f(a\n,\n", 2}, {"(a,\nb", 2}, {"(\n(\n", 2}, {"[\n", 1}, {"1\nto\n", 2}, {"1\nto 2\nby", 3}, {"while", 1}, {"while a\ndo", 2}, {"repeat", 1}, {"\ncreate", 2}, {"suspend a\ndo\n", 2},
		{"", 1}, {"\n\n\n", 1}, {"# a\n#b", 1}, {" \t", 1}, {"\n\n  # )", 1},
		{"$", 1}, {"a\n\n$", 3}, {")\n$", 2}, {"a b\n\n\n'", 4}, {"(\n\"a", 2}, {"a\nabcdefghijklm", 2}, {"1\n0x1", 2}, {"\n&nul", 2}, {strings.Repeat("\n", maxSource-1) + ")", maxSource}, {strings.Repeat("\n", maxSource) + ")", 1}, {"a" + strings.Repeat("\n", maxSource), 1},
		{"a)", 1}, {"a\n)", 2}, {"(a)\n)", 2}, {"a;", 1}, {"a\n;", 2}, {"a;\nb", 1}, {"a\nelse b", 2}, {"a\ndo b", 2}, {"a\nthen b", 2}, {"if a then b else c\nelse d", 2}, {"while a do b\ndo c", 2}, {"if a then b\ndo c", 2}, {"while a do b\nelse c", 2}, {"repeat a\ndo b", 2}, {"create a\ndo b", 2}, {"a\n, b", 2}, {"a\n: b", 2}, {"a\nof {}", 2}, {"a\nend", 2},
		{"a\nby b", 2}, {"a to b\nby c\nby d", 3}, {"a + b\nby c", 2}, {"1 to\nby 2", 2}, {"(1 to 2)\nby 3", 2}, {"1 to 2 & 3\nby 4", 2}, {"1 to 2 to 3 by 4\nby 5", 2}, {"1 to (2\nby 3)", 2}, {"to\n1", 1}, {"1\nto to 2", 2},
		{"()", 1}, {"(\n)", 2}, {"(\n,)", 2}, {"(a,\n)", 2}, {"(a\n;b)", 2}, {"(a\n]", 2}, {"(a, b\n]", 2}, {"[\n,a]", 2}, {"[a,\n]", 2}, {"[a\n;b]", 2}, {"[a\n)", 2}, {"[a,\n,b]", 2}, {"{a b\n}", 1}, {"{a\n, b}", 2}, {"{a\n)", 2}, {"{\n,}", 2}, {"{a;\n]", 2}, {"{a\n: b}", 2},
		{"f(a\n]", 2}, {"f(\n,)", 2}, {"f(a,\n)", 2}, {"f(a b\n)", 1}, {"f(a\n;b)", 2}, {"f(a,\n,b)", 2}, {"a[\n]", 2}, {"a[1:\n]", 2}, {"a[\n:1]", 2}, {"a[1:2\n:3]", 2}, {"a[1\n,2]", 2}, {"a[1\n)", 2}, {"a[1:2\n)", 2}, {"a[1\n;2]", 2}, {"a. .\nb", 1}, {"a.\n1", 2}, {"a.\n(b)", 2}, {"a.\nif", 2}, {"a.\n\"b\"", 2}, {"a.\n&null", 2}, {"a.\n'b'", 2},
		{"defer\n1", 2}, {"defer\n(a)", 2}, {"defer\nif", 2}, {"defer\n\"a\"", 2}, {"defer\n'a'", 2}, {"defer\n&null", 2}, {"not\n)", 2}, {"create\n)", 2}, {"repeat\n)", 2}, {"if\nthen a", 2}, {"if a then\nelse b", 2}, {"if a then b else\nelse c", 2}, {"while\ndo a", 2}, {"every a do\ndo b", 2}, {"until\n)", 2}, {"suspend a do\n)", 2},
		{"if a\n\"then\" b", 1}, {"if a \"then\"\nb", 1}, {"a \"+\" b\n+ c", 1}, {"a 'to' b", 1}, {"\"(\" a\n)", 1}, {"{a \";\" b}", 1}, {"(a \",\" b)", 1}, {"a[b \":\" c]", 1}, {"while a \"do\" b", 1}, {"\"if\"\nthen a", 2}, {"case a \"of\" {}", 1}, {"f \"()\"", 1},
	} {
		checkExpressionError(t, c.source, c.line)
	}
}

// wholePlaces are the places at which an expression of the level 1 stands, marked with #.
var wholePlaces = []string{
	"#", "x(#)", "x(y, #)", "x(#, y)", "x[#]", "x[# : y]", "x[y : #]", "(#)", "(x, #)", "(#, x)", "[#]", "[x, #]", "[#, x]", "{#}", "{x; #}", "{#; x}", "if # then x", "if x then #", "if x then # else y", "if x then y else #", "while #", "while # do x", "while x do #",
	"until #", "until x do #", "every #", "every x do #", "repeat #", "create #", "return #", "break #", "suspend #", "suspend # do x", "suspend x do #", "case # of {}", "case x of {# : y}", "case x of {y : #}", "case x of {default : #}", "case x of {default : #; y : z}", "case x of {y : z; # : w}",
}

func TestPlacesOfWholeExpressions(t *testing.T) {
	for _, place := range wholePlaces {
		for _, whole := range []string{"a & b", "a & b & c", "a ? b", "a := b & c := d", "a to b by c & d", "a & if b then c", "return a & b", "not a & b", "x & y(a)[b].c"} {
			e, line := parsedExpression(t, strings.ReplaceAll(place, "#", "("+whole+")"))
			if line != 0 {
				t.Errorf("%s has no place for %s", place, whole)
			}
			// The else would belong to the if in the place.
			if !strings.Contains(whole, "if") || !strings.HasSuffix(place, "else y") {
				checkExpression(t, strings.ReplaceAll(place, "#", whole), form(e))
			}
		}
	}
	for _, place := range []string{"x to #", "x to # by y", "x to y by #"} {
		for _, whole := range []string{"a | b", "a .| b | c", "a < b", "a ^ b | c"} {
			e, _ := parsedExpression(t, strings.ReplaceAll(place, "#", "("+whole+")"))
			checkExpression(t, strings.ReplaceAll(place, "#", whole), form(e))
		}
	}
}

// Trees that are complete and not valid have an error in the line of the root, wherever the fault is.
func TestInvalidTrees(t *testing.T) {
	nine := "a" + strings.Repeat(", a", 8)
	for _, c := range []struct {
		source string
		line   int
	}{
		{"\n[" + nine + "]", 2}, {"\n(" + nine + ")", 2}, {"\n\n{" + strings.Repeat("a;", 25) + "}", 3}, {"f\n&\n[" + nine + "]", 2}, {"f\n& g\n& [\n" + nine + "]", 3}, {"f &\ng\n:= [" + nine + "]\n&\nh", 4}, {"f\nto [" + nine + "]\nby h", 2},
		{"if\na\nthen\n[" + nine + "]", 1}, {"\n-\n[" + nine + "]", 2}, {"\n(\n(\n[" + nine + "]\n)\n)", 4}, {"\nreturn -\n[" + nine + "]", 2},
		{"[\n](" + nine + ")", 2}, {"[\n" + nine + "](\na\n)", 2}, {"[\n" + nine + "\n][\na\n]", 3}, {"[\n" + nine + "\n] .\na", 3}, {"[\n" + nine + "\n][\na:\n1]", 3},
	} {
		checkExpressionError(t, c.source, c.line)
	}
	// Where the tokens go on or end too early, the tree is not complete.
	checkExpressionError(t, "["+nine+"]\n)", 2)
	checkExpressionError(t, "\n["+nine+"\n:b]", 3)
	checkExpressionError(t, "["+nine+"] &\n", 1)
	checkExpressionError(t, "["+nine+"\n&\n", 2)
	checkExpressionError(t, "["+nine+"]\n\n&\n$", 4)
	{
		checkExpression(t, "["+nine[3:]+"]", "list("+nine[3:]+")")
		checkExpression(t, "a("+nine[3:]+")", "call(a, "+nine[3:]+")")
		checkExpression(t, "("+nine[3:]+")", "mutual("+nine[3:]+")")
	}
	checkExpression(t, "{"+strings.Repeat("a;", 24)+"}", "block("+strings.Repeat("a, ", 23)+"a)")
}

func TestLimitsOfParsedTrees(t *testing.T) {
	// The root of each tree is in line 2, and a part of it in line 3.
	for name, source := range map[string]func(n int) string{
		"left operands":  func(n int) string { return "\n(a) +" + strings.Repeat("a+", n-1) + "(\na)" },
		"right operands": func(n int) string { return "\na :=" + strings.Repeat("a:=", n-1) + "(\na)" },
		"unary":          func(n int) string { return "\n" + strings.Repeat("- ", n) + "(\na)" },
		"lists":          func(n int) string { return "\n" + strings.Repeat("[", n) + "\na\n" + strings.Repeat("]", n) },
		"suffixes":       func(n int) string { return "\na" + strings.Repeat("[b]", n-1) + "[\nb]" },
		"blocks":         func(n int) string { return "\n" + strings.Repeat("{", n) + "\na" + strings.Repeat("}", n) },
	} {
		for n := 1; n <= 39; n++ {
			if e, line := parsedExpression(t, source(n)); line != 0 || depthOf(e) != n+1 || e.Line != 2 {
				t.Errorf("%s: depth %d gives %s, %d", name, n+1, linedForm(e), line)
			}
		}
		for n := 40; n < 190; n++ {
			checkExpressionError(t, source(n), 2)
		}
	}
	// Statements of 25 nodes, and a last one of 24 or 25.
	statements := strings.Repeat(strings.Repeat("a+", 12)+"a;\n", 23)
	if e, line := parsedExpression(t, "\n{"+statements+"-a"+strings.Repeat("+a", 11)+"}"); line != 0 || countOf(e) != 600 {
		t.Errorf("600 nodes give %d in line %d", countOf(e), line)
	}
	checkExpressionError(t, "\n{"+statements+"a"+strings.Repeat("+a", 12)+"}", 2)
	checkExpressionError(t, "\n"+strings.Repeat("a+", 2900)+"\na", 2)
	checkExpressionError(t, "\na"+strings.Repeat("()", 2900), 2)
	checkExpressionError(t, "\n{"+strings.Repeat("a;", 2900)+"\n}", 2)
	checkExpressionError(t, "\n["+strings.Repeat("a,", 2900)+"\na]", 2)
	checkExpressionError(t, "\n["+strings.Repeat("a,", 2900)+"\n]", 3)
}

// nestings are the ways in which an expression contains another one, at the place of #, and how much deeper it is.
var nestings = []struct {
	source string
	deeper int
}{
	{"-#", 1}, {"not #", 1}, {"- -#", 2}, {"not -#", 2}, {"- not not #", 3}, {"x + #", 1}, {"x + y + #", 1}, {"x + y * #", 2}, {"x * y + #", 1}, {"x & #", 1}, {"x ? #", 1}, {"x := #", 1}, {"x := y := #", 2}, {"x ^ #", 1}, {"x ^ y ^ #", 2}, {"x -> #", 1}, {"x & y := z + #", 3}, {"x + -#", 2},
	{"x to #", 1}, {"x to y by #", 1}, {"x to y to #", 1}, {"x to # by y", 1}, {"x to y + #", 2}, {"x to y by z + #", 2}, {"x := y to #", 2}, {"x := y to z by #", 2}, {"# + x", 0}, {"# to x", 0}, {"# & x & y", 0}, {"#", 0}, {"#.f", 0}, {"#()", 0},
	{"x(#)", 1}, {"x(y, #)", 1}, {"x(#, y)", 1}, {"x(y)(#)", 1}, {"x.y(#)", 1}, {"-x(#)", 2}, {"x + y(#)", 2}, {"x(y(#))", 2}, {"(x)(#)", 1}, {"x[#]", 1}, {"x[# : y]", 1}, {"x[y : #]", 1}, {"x[y][#]", 1}, {"x[y][z : #]", 1}, {"-x[y : #]", 2}, {"(x, #)", 1}, {"(#, x)", 1}, {"(x, y, #)", 1}, {"(#)", 1}, {"((#))", 2}, {"[#]", 1}, {"[x, #]", 1}, {"[#, x]", 1}, {"[[#]]", 2}, {"{#}", 1}, {"{x; #}", 1}, {"{;#;}", 1}, {"{#; x}", 1}, {"-[#]", 2},
	{"if # then x", 1}, {"if x then #", 1}, {"if x then y else #", 1}, {"if x then # else y", 1}, {"while #", 1}, {"while # do x", 1}, {"while x do #", 1}, {"until #", 1}, {"until x do #", 1}, {"every #", 1}, {"every x do #", 1}, {"repeat #", 1}, {"create #", 1}, {"return #", 1}, {"break #", 1}, {"suspend #", 1}, {"suspend # do x", 1}, {"suspend x do #", 1},
	{"case # of {}", 1}, {"case x of {# : y}", 1}, {"case x of {y : #}", 1}, {"case x of {default : #}", 1}, {"case x of {y : z; # : w}", 1}, {"case x of {y : z; v : #}", 1}, {"case x of {default : #; y : z}", 1}, {"case x of {default : y; z : #}", 1}, {"case x of {} (#)", 1}, {"not if x then #", 2}, {"x + if y then #", 2}, {"if x then if y then #", 2}, {"if x then y + #", 2}, {"return return #", 2}, {"while x do -y[#]", 3}, {"x & if y then z := #", 3},
}

// inBrackets is an expression in some pairs of round brackets, with a line feed behind each left one of them if feeds is set.
func inBrackets(e string, pairs int, feeds bool) string {
	left := "("
	if feeds {
		left = "(\n"
	}
	return strings.Repeat(left, pairs) + e + strings.Repeat(")", pairs)
}

// checkNested expects an expression that is a tree with a form, or is nested too deep from a line on.
func checkNested(t *testing.T, source string, want string, line int) {
	t.Helper()
	if line == 0 {
		checkExpression(t, source, want)
		checkUnitBody(t, source, want)
		return
	}
	checkExpressionError(t, source, line)
	checkUnitError(t, "procedure p()\n"+source+"\nend", line+1)
}

// checkUnitBody expects that the statement of a procedure is a tree with a form.
func checkUnitBody(t *testing.T, source string, want string) {
	t.Helper()
	u, line := parsedUnit(t, "procedure p()\n"+source+"\nend")
	if line != 0 || len(u.Procedures) != 1 || form(u.Procedures[0].Body) != "block("+want+")" {
		t.Errorf("the body %.300q gives %.600s, %d, want %.600s", source, unitForm(u), line, want)
	}
}

// Round brackets are not in the tree, so that with them all depths can be met in a valid tree: those outside end in line 1, and each of those inside has a line of its own.
func TestNestingOfEachWay(t *testing.T) {
	for _, way := range nestings {
		want := ""
		if e, line := parsedExpression(t, strings.ReplaceAll(way.source, "#", "x")); line == 0 {
			want = form(e)
		}
		for _, outside := range []int{0, 1, 2, 100, 150, 194, 195, 196, 197, 198} {
			for deepest := 197; deepest <= 204; deepest++ {
				depth := outside + 1 + way.deeper
				inside := deepest - depth
				if inside < 0 {
					continue
				}
				source := inBrackets(strings.ReplaceAll(way.source, "#", inBrackets("x", inside, true)), outside, false)
				if deepest <= maxNesting {
					checkNested(t, source, want, 0)
				} else if outside <= 195 {
					checkNested(t, source, "", 1+max(0, maxNesting+1-depth))
				}
			}
		}
	}
}

// Each way in itself, with trees that are too deep to be valid: their roots are in line 1, and the token at the depth 201 is in line 2.
func TestNestingOfDeepTrees(t *testing.T) {
	for _, way := range append([]string{"- #", "not #", "x := #", "x ^ #", "x<->#"}, wholePlaces...) {
		if way == "#" || way == "(#)" {
			continue
		}
		before, after, _ := strings.Cut(way, "#")
		for times := 190; times < 205; times++ {
			source := strings.Repeat(before, times) + "(\nx)" + strings.Repeat(after, times)
			switch depth := times + 2; {
			case depth < maxNesting+1:
				// Not too deep for the parser, but no valid tree or body.
				checkExpressionError(t, source, 1)
				checkUnitError(t, "\nprocedure p()\n"+source+"\nend", 2)
			case depth == maxNesting+1:
				checkNested(t, source, "", 2)
			default:
				checkNested(t, source, "", 1)
			}
		}
	}
	// What is not nested goes on as long as the source.
	for _, way := range []string{"+ x", "- x * y", "& x := y", "to x", "to x by y", "| x", "(x)", "[x]", "[x : y]", ".x", "()"} {
		source := "(\nx).y" + strings.Repeat(" "+way, 400)
		if _, line := parsedExpression(t, source+"\n)"); line != 3 {
			t.Errorf("400 times %q gives line %d", way, line)
		}
		checkExpressionError(t, source, 2)
		checkExpressionError(t, "{"+source+"}", 1)
	}
	// What contains nothing may stand at the depth 200.
	for _, e := range []string{"x", "1", "\"x\"", "'x'", "&pos", "[]", "{}", "{;}", "x()", "x()()", "x.y", "fail", "next", "return", "break", "suspend", "defer x"} {
		checkNested(t, inBrackets("\n"+e, 199, false), form(must(impl.ParseExpression(e))), 0)
		checkNested(t, inBrackets("\n"+e, 200, false), "", 2)
	}
	// At the depth 201 stands a token that begins no expression, or none at all.
	for deep := 195; deep < 205; deep++ {
		checkExpressionError(t, strings.Repeat("-\n", deep)+")", min(deep, 200)+1)
		checkExpressionError(t, strings.Repeat("-\n", deep), min(deep, 201))
		checkExpressionError(t, strings.Repeat("(\n", deep)+")", min(deep, 200)+1)
	}
	for _, wide := range []string{"(\n", "-\n", "not\n", "[\n", "{\n", "x :=\n", "x(\n", "if\n"} {
		source := strings.Repeat(wide, maxSource/len(wide))
		checkExpressionError(t, source, 201)
		checkUnitError(t, "procedure p()\n"+source[:len(wide)*500], 202)
	}
}

// must is the tree of an expression without an error.
func must(e impl.Expr, line int) impl.Expr {
	if line != 0 {
		panic(line)
	}
	return e
}

// Random ways in each other, each in some round brackets. All of that is in line 1, and less deep than the limit.
func TestRandomNesting(t *testing.T) {
	random := rand.New(rand.NewPCG(7, 2))
	for range 3000 {
		source, depth := "#", 1
		for range random.IntN(7) {
			way, pairs := nestings[random.IntN(len(nestings))], 1+random.IntN(25)
			source = strings.Replace(source, "#", inBrackets(way.source, pairs, false), 1)
			depth += pairs + way.deeper
		}
		deepest := 198 + random.IntN(6)
		source = strings.Replace(source, "#", inBrackets("x", deepest-depth, true), 1)
		if deepest > maxNesting {
			checkExpressionError(t, source, 1+maxNesting+1-depth)
			checkUnitError(t, "procedure p()\n"+source+"\nend", 2+maxNesting+1-depth)
		} else if _, line := parsedExpression(t, source); line != 0 {
			t.Fatalf("ParseExpression(%q) gives line %d", source, line)
		}
	}
}

func TestOrdinaryUnits(t *testing.T) {
	for _, c := range [][2]string{
		{"", ""}, {";", ""}, {"\n# nothing\n", ""}, {";;\n;\n;;", ""},
		{"record r()", "record@1 r()"}, {"record r(a)", "record@1 r(a)"}, {"record r(a, b, a)", "record@1 r(a b a)"}, {"\nrecord r(\na\n,\nb\n)\n", "record@2 r(a b)"}, {"\nrecord\nr()", "record@2 r()"},
		{"global a", "global a"}, {"global a, b\nglobal c", "global a b c"}, {"global\na\n,\nb", "global a b"}, {"global a; global b;;global a", "global a b a"}, {"global a global b", "global a b"},
		{"procedure p() end", "procedure@1 p() [] block@1"}, {"procedure p(a) end", "procedure@1 p(a) [] block@1"}, {"procedure p(a, b, a) end", "procedure@1 p(a b a) [] block@1"}, {"\nprocedure\np()\nend\n", "procedure@2 p() [] block@2"}, {"procedure p(\na,\nb\n)\nend", "procedure@1 p(a b) [] block@1"},
		{"procedure p() local a end", "procedure@1 p() [a] block@1"}, {"procedure p() local a, b end", "procedure@1 p() [a b] block@1"}, {"procedure p();;local a;;local b, a;;;end", "procedure@1 p() [a b a] block@1"}, {"procedure p()\nlocal a\nlocal b,\nc\n\nlocal d\nend", "procedure@1 p() [a b c d] block@1"}, {"procedure p() local a local b x end", "procedure@1 p() [a b] block@1(x@1)"},
		{"procedure p() x end", "procedure@1 p() [] block@1(x@1)"}, {"procedure p() x; y end", "procedure@1 p() [] block@1(x@1, y@1)"}, {"procedure p();;x;;y;;end", "procedure@1 p() [] block@1(x@1, y@1)"}, {"procedure p() local a x := 1 end", "procedure@1 p() [a] block@1((x@1 :=@1 1@1))"}, {"procedure p() local a, b; x; end", "procedure@1 p() [a b] block@1(x@1)"}, {"procedure p(); end", "procedure@1 p() [] block@1"}, {"procedure p() ;;; end", "procedure@1 p() [] block@1"},
		{"procedure p()\nx\n\n- y\nreturn\nz\nsuspend a do\nb\nend", "procedure@1 p() [] block@1(x@2, -@4(y@4), return@5, z@6, suspend@7(a@7, b@8))"}, {"procedure p() {} end", "procedure@1 p() [] block@1(block@1)"}, {"procedure p() {x; y}; z end", "procedure@1 p() [] block@1(block@1(x@1, y@1), z@1)"}, {"procedure p() return end", "procedure@1 p() [] block@1(return@1)"}, {"procedure p() (x, y) end", "procedure@1 p() [] block@1(mutual@1(x@1, y@1))"}, {"procedure p()(x) end", "procedure@1 p() [] block@1(x@1)"},
		{"procedure p() end procedure q() end", "procedure@1 p() [] block@1; procedure@1 q() [] block@1"}, {"procedure p()\nend\n;\nprocedure p()\nend;", "procedure@1 p() [] block@1; procedure@4 p() [] block@4"},
		{"record p(a, b)\nglobal g\nprocedure main()\nlocal x\nx := 1\nwrite(x)\nend\n", "record@1 p(a b); global g; procedure@3 main() [x] block@3((x@5 :=@5 1@5), call@6(write@6, x@6))"},
		{";;record r();;;global g;;procedure p() end;;record s(c);procedure q() end;global h;", "record@1 r(); record@1 s(c); global g h; procedure@1 p() [] block@1; procedure@1 q() [] block@1"}, {"procedure p() end record r() global g record s() procedure q() end global h", "record@1 r(); record@1 s(); global g h; procedure@1 p() [] block@1; procedure@1 q() [] block@1"},
		{"# first\nprocedure main() # second\n  every write(1 to 3)\nend # third", "procedure@2 main() [] block@2(every@3(call@3(write@3, (1@3 to@3 3@3))))"}, {"global write, null, abcdefghijkl", "global write null abcdefghijkl"}, {"procedure p() \"end\"; 'end' end", "procedure@1 p() [] block@1(\"end\"@1, 'den'@1)"},
	} {
		checkUnitSource(t, c[0], c[1])
		checkUnitSource(t, c[0]+"\n;# end", c[1])
	}
}

// A body has the same statements as a block.
func TestBodies(t *testing.T) {
	for _, body := range []string{"", ";", "x", "x; y", ";;x;;y;;", "x\ny", "x\n;\ny\n", "if a then b\nelse c\nd", "case a of {}\n;{x; y}", "every a do b; while c", "return\nx\nreturn", "x +\ny", "suspend x\ndo y", "[a, b]; (c, d)\n{e}"} {
		e, line := impl.ParseExpression("{" + body + "}")
		u, unitLine := parsedUnit(t, "procedure p()"+body+" end")
		if line != 0 || unitLine != 0 || len(u.Procedures) != 1 || linedForm(u.Procedures[0].Body) != linedForm(e) {
			t.Errorf("the body %q gives %s, %d, want %s, %d", body, unitForm(u), unitLine, linedForm(e), line)
		}
	}
}

func TestLinesOfErrorsInUnits(t *testing.T) {
	for _, c := range []struct {
		source string
		line   int
	}{
		{"x", 1}, {"\nend", 2}, {";\nlocal a", 2}, {"\n\n1", 3}, {"\n)", 2}, {"record r()\nx", 2}, {"global g\nx", 2}, {"global g;\nx", 2}, {"procedure p() end\nend", 2}, {"procedure p() end;\nx := 1", 2}, {"procedure p() end\n(x)", 2}, {"record r()\n, s()", 2}, {"\"record\" r()", 1}, {"'global' g", 1},
		{"record", 1}, {"record\n1()", 2}, {"record\nif()", 2}, {"record r", 1}, {"record r\n", 1}, {"\nrecord\nr\n(a)", 3}, {"record r(\n", 1}, {"record r(a\n", 1}, {"record r(a\n,", 2}, {"record r(a,\n)", 2}, {"record r(\n,)", 2}, {"record r(a\nb)", 1}, {"record r(a b\n)", 1}, {"record r(\n1)", 2}, {"record r(a\n;b)", 2}, {"record r(a\n]", 2}, {"record r(a.\nb)", 1}, {"record r[\na]", 1}, {"record\n\"r\"()", 2}, {"record\n\nr(\"a\")", 3}, {"record\nrecord r()", 2}, {"record r()\n)", 2}, {"record r;\n()", 1}, {"record r(a\nend)", 2},
		{"global", 1}, {"global\n,", 2}, {"global a,\n", 1}, {"global a,\n,b", 2}, {"global a b\n", 1}, {"global a\nb", 2}, {"global\n1", 2}, {"global\nend", 2}, {"global\n\"a\"", 2}, {"global a,\n'b'", 2}, {"global a,\n&null", 2}, {"global a\n:= 1", 2}, {"global\nglobal a", 2}, {"global ()\n", 1}, {"global a,\nrecord r()", 2}, {"global;\na", 1},
		{"procedure", 1}, {"procedure\nend", 2}, {"procedure p", 1}, {"procedure p\n()", 1}, {"procedure p\nend", 2}, {"procedure p(", 1}, {"procedure p(\na", 2}, {"procedure p(\na\n,", 3}, {"procedure p(a,\n)", 2}, {"procedure p()", 1}, {"procedure p()\nx", 2}, {"procedure p()\nx\n;", 3}, {"procedure p() x\ny\n\n", 2}, {"procedure p()\n1\n+\n", 3}, {"procedure p();", 1}, {"procedure\np()", 2}, {"procedure p() local\n", 1}, {"procedure p() local a\n,\n", 2}, {"procedure p()\nlocal a\n", 2},
		{"procedure p() a b\nend", 1}, {"procedure p() local\nend", 2}, {"procedure p() local a,\nend", 2}, {"procedure p() local\n1 end", 2}, {"procedure p() local\n\"a\" end", 2}, {"procedure p() local a,\n,b end", 2}, {"procedure p() local a\n, b\n, local c end", 3}, {"procedure p() local a b\n, c end", 2}, {"procedure p() local a := 1\nend", 1}, {"procedure p()\na;\nlocal b; end", 3}, {"procedure p() {\nlocal b} end", 2}, {"procedure p() local ;\na end", 1},
		{"procedure p()\nrecord r() end", 2}, {"procedure p() x\nglobal g end", 2}, {"procedure p() x;\nprocedure q() end end", 2}, {"procedure p() end\nend end", 2}, {"procedure p() {x\nend", 2}, {"procedure p() (x\nend)", 2}, {"procedure p() x +\nend", 2}, {"procedure p() if x\nend", 2}, {"procedure p() f(\nend", 2}, {"procedure p() return\nreturn +\nend", 3}, {"procedure p() )\nend", 1}, {"procedure p() x\n} end", 2}, {"procedure p() x,\ny end", 1}, {"procedure p(x; y)\nend", 1}, {"procedure 1()\nend", 1}, {"procedure p() end, \nprocedure q() end", 1}, {"procedure p() x \"end\"\n", 1}, {"procedure p() suspend\ndo x end", 2}, {"procedure p() 1 to 2\nby 3\nby 4 end", 3},
		{"$", 1}, {"record r()\n$", 2}, {"x\n\n$", 3}, {"record\n\n'", 3}, {"global g" + strings.Repeat("\n", maxSource), 1}, {"procedure p()\nabcdefghijklm\nend", 2},
	} {
		checkUnitError(t, c.source, c.line)
	}
}

// manyNames are some different names with commas between them.
func manyNames(count int) string {
	var list []string
	for i := range count {
		list = append(list, "n"+strconv.Itoa(i))
	}
	return strings.Join(list, ", ")
}

// The limits of units in sources: after one declaration too many, or a declaration with one name too many, the error is in the line of its first token, and nothing behind it matters but what Lex finds.
func TestLimitsOfParsedUnits(t *testing.T) {
	nine := "a" + strings.Repeat(", a", 8)
	for _, c := range []struct {
		good, bad string
		line      int
	}{
		{strings.Repeat("record r()\n", 8), "\nrecord r(\n)", 10}, {strings.Repeat("procedure p()\nend\n", 12), "procedure\np() end", 25}, {strings.Repeat("global a\n", 12), "global b", 13}, {strings.Repeat("global a, b\n", 6), ";\nglobal\n\nb", 8}, {"global " + manyNames(12) + "\n", "global b\n", 2}, {"global " + manyNames(11) + "\n", "\nglobal b,\nc\n", 3}, {"", "\nglobal " + strings.ReplaceAll(manyNames(13), ",", ",\n"), 2},
		{"record r(" + manyNames(6) + ")\n", "record r(" + manyNames(7) + ")", 2}, {"", "\n\nrecord\nr(" + manyNames(7) + "\n)", 3}, {"procedure p(" + manyNames(6) + ") end\n", "procedure p(" + manyNames(7) + ")\nend", 2}, {"", "\nprocedure\np(\n" + manyNames(7) + ")\n\nend", 2}, {"procedure p() local " + manyNames(8) + "\nend\n", "procedure p()\nlocal " + manyNames(9) + "\nend", 3}, {"procedure p() local " + manyNames(4) + ";local " + manyNames(4) + " end", "\nprocedure p()\nlocal " + manyNames(4) + "\nlocal " + manyNames(5) + "\nend", 2},
		{"procedure p() " + strings.Repeat("x;", 24) + " end\n", "procedure p()\n" + strings.Repeat("x\n", 25) + "end", 2}, {"procedure p() [" + nine[3:] + "] end\n", "procedure p()\n\n[" + nine + "]\nend", 2}, {"procedure p() f(" + nine[3:] + ") end\n", "procedure p()\nx\nx :=\nf(" + nine + ")\nend", 2}, {"", "\nprocedure p()\n(" + nine + ")\nend", 2},
		{"procedure p() " + strings.Repeat("- ", 38) + "x end\n", "procedure p()\n" + strings.Repeat("- ", 39) + "x\nend", 2}, {"procedure p() x;" + strings.Repeat("x+", 38) + "x end\n", "procedure\np()\nx\n" + strings.Repeat("x+", 39) + "\nx end", 2}, {"procedure p() " + strings.Repeat(strings.Repeat("a+", 12)+"a;", 23) + "-a" + strings.Repeat("+a", 11) + " end\n", "procedure p()\n" + strings.Repeat(strings.Repeat("a+", 12)+"a\n", 23) + "a" + strings.Repeat("+a", 12) + "\nend", 2},
	} {
		if _, line := parsedUnit(t, c.good); line != 0 {
			t.Errorf("ParseUnit(%.300q) gives line %d", c.good, line)
		}
		for _, rest := range []string{"", "\n", ";;", "\n)", "\nx", "\n\nrecord 1", "\nend\nend", "\nrecord r()\nglobal g"} {
			checkUnitError(t, c.good+c.bad+rest, c.line)
		}
		checkUnitError(t, c.good+c.bad+"\n$", 1+strings.Count(c.good+c.bad, "\n")+1)
		checkUnitError(t, ")\n"+c.good+c.bad, 1)
	}
	// All limits met at once.
	var source strings.Builder
	for range 8 {
		source.WriteString("record r(" + manyNames(6) + ")\n")
	}
	source.WriteString("global " + manyNames(12) + "\n")
	for range 12 {
		source.WriteString("procedure p(" + manyNames(6) + ")\nlocal " + manyNames(8) + "\n" + strings.Repeat("[x]\n", 24) + "end\n")
	}
	u, line := parsedUnit(t, source.String())
	if line != 0 || len(u.Records) != 8 || len(u.Globals) != 12 || len(u.Procedures) != 12 || len(u.Procedures[11].Locals) != 8 || len(u.Procedures[11].Body.Kids) != 24 || u.Procedures[11].Line != 9+11*27+1 {
		t.Errorf("the unit with all limits gives %.300s, %d", unitForm(u), line)
	}
	for _, more := range []string{"record r()", "global g", "procedure p() end"} {
		checkUnitError(t, source.String()+more, 1+strings.Count(source.String(), "\n"))
	}
	// The lines of declarations in the middle.
	checkUnitError(t, "record r("+manyNames(7)+")\nrecord 1", 1)
	checkUnitError(t, "global a\nprocedure p()\nend\nrecord r("+manyNames(7)+")\nglobal b\nx", 4)
}

// inLines writes words with line feeds between them, but with a blank where a line feed would stand for a semicolon.
func inLines(words []string) string {
	var source strings.Builder
	for i, word := range words {
		if i > 0 && insertsSemicolon(words[i-1], word) {
			source.WriteString(" ")
		} else if i > 0 {
			source.WriteString("\n")
		}
		source.WriteString(word)
	}
	return source.String()
}

// insertsSemicolon reports whether a line feed between two words stands for a semicolon.
func insertsSemicolon(word string, next string) bool {
	one, _ := impl.Lex(word)
	other, _ := impl.Lex(next)
	return ends(one[0]) && begins(other[0])
}

// All sequences of some words up to the first token that cannot continue, which is in a line of its own where this is possible.
func TestShortSourcesByGrammar(t *testing.T) {
	for _, c := range []struct {
		before, words string
		length        int
	}{
		{"", "x + := ^ & - to by ( )", 4}, {"", "x to by | := -", 6}, {"", "x ( ) [ ] , : .", 5}, {"", "x { } ; (", 6}, {"", "x if then else while do suspend", 5}, {"", "x return suspend - do & ( )", 5}, {"", "x break not - [ ] . +", 5},
		{"", reservedList + " " + operatorList + " x 1", 2}, {"", "x \"then\" 'of' &pos defer fail next create repeat if of every do until", 4}, {"", "record global procedure end local x ( ) , ;", 6},
		{"case x of {", "1 : ; default }", 8}, {"case x of { 1 : 2 ;", "1 : ; default }", 7}, {"procedure p ( )", "local x , ; end", 6}, {"procedure p (", "x , ) ; end", 6}, {"record r ( x ) global g", ", g ; procedure ( ) end", 5}, {"if x then if", "x then else +", 7}, {"while suspend", "x do suspend return", 6}, {"x to", "x to by := |", 7},
	} {
		words := strings.Fields(c.words)
		sequences := [][]string{strings.Fields(c.before)}
		right := 0
		for range c.length {
			var longer [][]string
			for _, sequence := range sequences {
				for _, word := range words {
					next := append(slices.Clone(sequence), word)
					done, open := checkByGrammar(t, inLines(next))
					if done {
						right++
					}
					if open {
						longer = append(longer, next)
					}
				}
			}
			sequences = longer
		}
		if right < 10 {
			t.Errorf("only %d of the sequences of %q are right", right, c.words)
		}
	}
}

// speaker says random sentences.
type speaker struct {
	random *rand.Rand
	words  []string
}

// The forms of sentences: # is an expression, U a unary operator, B a binary one, and N a name.
const (
	leafForms       = `N|N|1|"s"|'c'|&pos|fail|next|return|break|suspend|defer N|[ ]|{ }|{ ; }`
	expressionForms = leafForms + `|U #|not #|# B #|# B #|# B #|# B #|# to #|# to # by #|# ( )|# ( # )|# ( # , # )|# [ # ]|# [ # : # ]|# . N|( # )|( # )|( # , # )|[ # ]|[ # , # ]|{ # }|{ # ; # }|{ ; # ; ; }` +
		`|if # then #|if # then # else #|while #|while # do #|until # do #|every # do #|repeat #|create #|return #|break #|suspend #|suspend # do #` +
		`|case # of { }|case # of { ; # : # ; }|case # of { # : # ; default : # }|case # of { default : # ; ; # : # }|case # of { # : # ; ; # : # }`
	unitForms = `record N ( )|record N ( N )|record N ( N , N )|global N|global N , N|;|procedure N ( ) end|procedure N ( N ) # end|procedure N ( N , N ) ; # ; # ; end|procedure N ( ) local N ; # end|procedure N ( ) ; local N , N local N ; ; # ; ; # end`
)

// say says a form. The expressions in it become shorter the deeper they are.
func (s *speaker) say(form string, deep int) {
	for _, word := range strings.Fields(form) {
		switch word {
		case "#":
			forms := expressionForms
			if deep == 0 || s.random.IntN(4) == 0 {
				forms = leafForms
			}
			s.sayOne(forms, deep-1)
		case "U":
			s.sayOne(strings.Join(strings.Fields(strings.ReplaceAll(unaryList, "|", "")), "|"), 0)
		case "B":
			operators := slices.Sorted(maps.Keys(binaryLevels))
			s.words = append(s.words, operators[s.random.IntN(len(operators))])
		case "N":
			s.words = append(s.words, string("xyz"[s.random.IntN(3)]))
		default:
			s.words = append(s.words, word)
		}
	}
}

// sayOne says one of several forms.
func (s *speaker) sayOne(forms string, deep int) {
	list := strings.Split(forms, "|")
	s.say(list[s.random.IntN(len(list))], max(0, deep))
}

// spoiled makes a random change to the words.
func (s *speaker) spoiled() {
	all := wordsOf(reservedList, operatorList, `x y 1 "s" 'c' &pos "then" ")" ; ; ( ) default`)
	at, word := s.random.IntN(len(s.words)), all[s.random.IntN(len(all))]
	switch s.random.IntN(5) {
	case 0:
		s.words = slices.Delete(s.words, at, at+1)
	case 1:
		s.words = slices.Insert(s.words, at, word)
	case 2:
		s.words[at] = word
	case 3:
		other := s.random.IntN(len(s.words))
		s.words[at], s.words[other] = s.words[other], s.words[at]
	default:
		s.words = s.words[:at]
	}
	if len(s.words) == 0 {
		s.words = []string{"x"}
	}
}

// source writes the words with random gaps; seldom with line feeds that stand for semicolons.
func (s *speaker) source() string {
	gaps := []string{" ", " ", "\n", "\n", "\t", " # then\n", "\n\n", "\n \n"}
	careless := s.random.IntN(4) == 0
	var source strings.Builder
	for i, word := range s.words {
		gap := gaps[s.random.IntN(len(gaps))]
		if i > 0 && strings.Contains(gap, "\n") && !careless && insertsSemicolon(s.words[i-1], word) {
			gap = " "
		}
		source.WriteString(gap + word)
	}
	return source.String()
}

func TestRandomExpressionsByGrammar(t *testing.T) {
	s := speaker{random: rand.New(rand.NewPCG(7, 3))}
	right, wrong := 0, 0
	for i := range 12000 {
		s.words = nil
		s.say("#", 1+i%4)
		for range s.random.IntN(3) * s.random.IntN(2) {
			s.spoiled()
		}
		if done, _ := checkByGrammar(t, s.source()); done {
			right++
		} else {
			wrong++
		}
	}
	if right < 4000 || wrong < 2000 {
		t.Errorf("%d sources are right and %d are wrong", right, wrong)
	}
}

func TestRandomUnitsByGrammar(t *testing.T) {
	s := speaker{random: rand.New(rand.NewPCG(7, 4))}
	right, wrong := 0, 0
	for i := range 6000 {
		s.words = nil
		for range s.random.IntN(6) + s.random.IntN(2)*s.random.IntN(20) {
			s.sayOne(unitForms, i%3)
		}
		for range s.random.IntN(3) * s.random.IntN(2) * min(1, len(s.words)) {
			s.spoiled()
		}
		if done, _ := checkByGrammar(t, s.source()); done {
			right++
		} else {
			wrong++
		}
	}
	if right < 1500 || wrong < 1500 {
		t.Errorf("%d units are right and %d are wrong", right, wrong)
	}
}

// sampleUnit is a valid unit with something of every sort.
func sampleUnit() impl.Unit {
	block := func(line int, kids ...impl.Expr) impl.Expr {
		return impl.Expr{Kind: impl.ExprBlock, Line: line, Kids: kids}
	}
	return impl.Unit{
		Records: []impl.RecordType{{Name: "pair", Fields: []string{"left", "right"}, Line: 1}, {Name: "none", Line: 2}},
		Globals: []string{"count", "total", "count"},
		Procedures: []impl.Procedure{
			{Name: "main", Body: wholeProgram(), Line: 4},
			{Name: "sum", Params: []string{"a", "b"}, Locals: []string{"c", "a", "pair"}, Body: block(9, leafNode(0), leafNode(1), leafNode(2)), Line: 9},
			{Name: "sum", Params: []string{}, Locals: []string{}, Body: block(0)},
		},
	}
}

// copiedTexts is a list with new memory.
func copiedTexts(list []string) []string {
	copied := slices.Clone(list)
	for i, s := range list {
		copied[i] = strings.Clone(s)
	}
	return copied
}

// copiedUnit is a unit with new memory everywhere.
func copiedUnit(u impl.Unit) impl.Unit {
	u.Records, u.Globals, u.Procedures = slices.Clone(u.Records), copiedTexts(u.Globals), slices.Clone(u.Procedures)
	for i, r := range u.Records {
		u.Records[i] = impl.RecordType{Name: strings.Clone(r.Name), Fields: copiedTexts(r.Fields), Line: r.Line}
	}
	for i, p := range u.Procedures {
		u.Procedures[i] = impl.Procedure{Name: strings.Clone(p.Name), Params: copiedTexts(p.Params), Locals: copiedTexts(p.Locals), Body: copiedTree(p.Body), Line: p.Line}
	}
	return u
}

// linelessUnit is EraseUnitLines by definition.
func linelessUnit(u impl.Unit) impl.Unit {
	u = copiedUnit(u)
	for i := range u.Records {
		u.Records[i].Line = 0
	}
	for i := range u.Procedures {
		u.Procedures[i].Line = 0
		u.Procedures[i].Body = linelessTree(u.Procedures[i].Body)
	}
	return u
}

// sameUnits reports whether two units are equal in everything; nil and empty lists are equal.
func sameUnits(a impl.Unit, b impl.Unit) bool {
	sameRecords := func(a, b impl.RecordType) bool {
		return a.Name == b.Name && slices.Equal(a.Fields, b.Fields) && a.Line == b.Line
	}
	sameProcedures := func(a, b impl.Procedure) bool {
		return a.Name == b.Name && slices.Equal(a.Params, b.Params) && slices.Equal(a.Locals, b.Locals) && sameTrees(a.Body, b.Body) && a.Line == b.Line
	}
	return slices.EqualFunc(a.Records, b.Records, sameRecords) && slices.Equal(a.Globals, b.Globals) && slices.EqualFunc(a.Procedures, b.Procedures, sameProcedures)
}

// checkUnit compares the functions of one unit with their definitions, and expects them to leave the unit as it was.
func checkUnit(t *testing.T, u impl.Unit, valid bool) {
	t.Helper()
	before := copiedUnit(u)
	if got := impl.IsValidUnit(u); got != valid {
		t.Fatalf("IsValidUnit(%.500s) = %v", unitForm(u), got)
	}
	erased := impl.EraseUnitLines(u)
	if !sameUnits(erased, linelessUnit(before)) {
		t.Fatalf("EraseUnitLines(%.500s) = %.500s", unitForm(before), unitForm(erased))
	}
	if twice := impl.EraseUnitLines(erased); !sameUnits(twice, erased) || valid && !impl.IsValidUnit(erased) {
		t.Fatalf("EraseUnitLines(%.500s) = %.500s, and erased again %.500s", unitForm(before), unitForm(erased), unitForm(twice))
	}
	if !reflect.DeepEqual(u, before) {
		t.Fatalf("%.500s was changed to %.500s", unitForm(before), unitForm(u))
	}
}

// numberedNames are some different names.
func numberedNames(count int) []string {
	if count == 0 {
		return nil
	}
	return strings.Split(manyNames(count), ", ")
}

func TestLimitsOfUnits(t *testing.T) {
	checkUnit(t, impl.Unit{}, true)
	checkUnit(t, impl.Unit{Records: []impl.RecordType{}, Globals: []string{}, Procedures: []impl.Procedure{}}, true)
	checkUnit(t, sampleUnit(), true)
	for _, c := range []struct {
		most   int
		change func(u *impl.Unit, count int)
	}{
		{8, func(u *impl.Unit, count int) { u.Records = slices.Repeat(u.Records[:1], count) }},
		{6, func(u *impl.Unit, count int) { u.Records[0].Fields = numberedNames(count) }},
		{6, func(u *impl.Unit, count int) { u.Records[1].Fields = slices.Repeat([]string{"a"}, count) }},
		{12, func(u *impl.Unit, count int) { u.Globals = numberedNames(count) }},
		{12, func(u *impl.Unit, count int) { u.Globals = slices.Repeat([]string{"a"}, count) }},
		{12, func(u *impl.Unit, count int) { u.Procedures = slices.Repeat(u.Procedures[1:2], count) }},
		{6, func(u *impl.Unit, count int) { u.Procedures[0].Params = numberedNames(count) }},
		{6, func(u *impl.Unit, count int) { u.Procedures[2].Params = slices.Repeat([]string{"a"}, count) }},
		{8, func(u *impl.Unit, count int) { u.Procedures[0].Locals = numberedNames(count) }},
		{8, func(u *impl.Unit, count int) { u.Procedures[2].Locals = slices.Repeat([]string{"a"}, count) }},
		{24, func(u *impl.Unit, count int) {
			u.Procedures[1].Body.Kids = slices.Repeat([]impl.Expr{leafNode(0)}, count)
		}},
	} {
		for _, count := range []int{0, 1, c.most - 1, c.most, c.most + 1, c.most + 2, 64, 256, 256 + c.most, 100000} {
			u := sampleUnit()
			c.change(&u, count)
			checkUnit(t, u, count <= c.most)
		}
	}
	full := impl.Unit{
		Records: slices.Repeat([]impl.RecordType{{Name: "r", Fields: numberedNames(6), Line: math.MaxInt}}, 8), Globals: numberedNames(12),
		Procedures: slices.Repeat([]impl.Procedure{{Name: "p", Params: numberedNames(6), Locals: numberedNames(8), Body: shapedTree(600, 40, 3, true), Line: math.MaxInt}}, 12),
	}
	checkUnit(t, full, true)
	for nodes := 597; nodes <= 603; nodes++ {
		for depth := 37; depth <= 43; depth++ {
			u := copiedUnit(full)
			u.Procedures[11].Body = shapedTree(nodes, depth, 0, false)
			checkUnit(t, u, nodes <= 600 && depth <= 40)
		}
	}
}

// namePlaces are all names of the sample, by their numbers.
func namePlaces(u *impl.Unit) []*string {
	var places []*string
	all := func(list []string) {
		for i := range list {
			places = append(places, &list[i])
		}
	}
	for i := range u.Records {
		places = append(places, &u.Records[i].Name)
		all(u.Records[i].Fields)
	}
	all(u.Globals)
	for i := range u.Procedures {
		places = append(places, &u.Procedures[i].Name)
		all(u.Procedures[i].Params)
		all(u.Procedures[i].Locals)
	}
	return places
}

func TestNamesOfUnits(t *testing.T) {
	sample := sampleUnit()
	texts := append(wordsOf(reservedList), "a", "_", "A1", "abcdefghijkl", "abcdefghijklm", "", " ", "1", "1a", "a b", "a-b", "a\x00", "\xff", "&null", "null", "main", "write", "x ", " x", "+", strings.Repeat("a", 100000))
	for place := range namePlaces(&sample) {
		for _, text := range texts {
			u := copiedUnit(sample)
			*namePlaces(&u)[place] = text
			checkUnit(t, u, ruleOf(impl.ExprName).text(text))
		}
	}
	if len(namePlaces(&sample)) != 4+3+3+5 {
		t.Errorf("the sample has %d names", len(namePlaces(&sample)))
	}
}

func TestLinesOfUnits(t *testing.T) {
	for _, line := range append(extremeInts(), -2, -1, 0, 1, 2, maxSource, maxSource+1) {
		for i := range 2 {
			u := sampleUnit()
			u.Records[i].Line = line
			checkUnit(t, u, line >= 0)
		}
		for i := range 3 {
			u := sampleUnit()
			u.Procedures[i].Line = line
			checkUnit(t, u, line >= 0)
			u = sampleUnit()
			u.Procedures[i].Body.Line = line
			checkUnit(t, u, line >= 0)
		}
		u := sampleUnit()
		u.Procedures[1].Body.Kids[1].Line = line
		checkUnit(t, u, line >= 0)
	}
}

func TestBodiesOfUnits(t *testing.T) {
	for place := range 3 {
		for _, rule := range exprRules {
			u := sampleUnit()
			u.Procedures[place].Body = nodeWith(rule, rule.most)
			checkUnit(t, u, rule.kind == impl.ExprBlock)
			u.Procedures[place].Body = nodeListOf(nodeWith(rule, rule.most))
			checkUnit(t, u, false)
			u.Procedures[place].Body.Kind = impl.ExprBlock
			checkUnit(t, u, true)
			for _, bad := range faultyNodes(rule) {
				u.Procedures[place].Body = bad
				checkUnit(t, u, false)
				u.Procedures[place].Body = impl.Expr{Kind: impl.ExprBlock, Kids: []impl.Expr{leafNode(0), chain(ruleOf(impl.ExprNot), 1, 0, 2, bad)}}
				checkUnit(t, u, false)
			}
		}
		for _, kind := range append(extremeInts(), 0, 13, 15, 30, -14, 256+14) {
			u := sampleUnit()
			u.Procedures[place].Body.Kind = kind
			checkUnit(t, u, false)
		}
	}
	// The zero procedure has no body.
	checkUnit(t, impl.Unit{Procedures: []impl.Procedure{{Name: "p"}}}, false)
	checkUnit(t, impl.Unit{Procedures: []impl.Procedure{{Name: "p", Body: impl.Expr{Kind: impl.ExprBlock}}}}, true)
	checkUnit(t, impl.Unit{Procedures: make([]impl.Procedure, 1), Records: make([]impl.RecordType, 1)}, false)
	checkUnit(t, impl.Unit{Records: make([]impl.RecordType, 100000), Procedures: make([]impl.Procedure, 100000), Globals: make([]string, 100000)}, false)
}

// Written out, with a unit that is not valid.
func TestEraseUnitLines(t *testing.T) {
	deep := chain(ruleOf(impl.ExprNot), 1, 0, 1000, impl.Expr{Kind: 77, Text: "\xff", Number: -5, Line: math.MinInt})
	u := impl.Unit{
		Records:    []impl.RecordType{{Name: "if", Fields: []string{"", "a"}, Line: -3}, {Line: math.MaxInt}},
		Globals:    []string{"", "\xff", "g"},
		Procedures: []impl.Procedure{{Name: " ", Params: []string{"end"}, Locals: []string{"", ""}, Body: deep, Line: math.MinInt}, {Name: "p", Line: 7}},
	}
	checkUnit(t, u, false)
	got := impl.EraseUnitLines(u)
	want := impl.Unit{
		Records:    []impl.RecordType{{Name: "if", Fields: []string{"", "a"}}, {}},
		Globals:    []string{"", "\xff", "g"},
		Procedures: []impl.Procedure{{Name: " ", Params: []string{"end"}, Locals: []string{"", ""}, Body: linelessTree(deep)}, {Name: "p"}},
	}
	if !sameUnits(got, want) || !impl.EqualExpr(got.Procedures[0].Body, impl.EraseLines(deep)) {
		t.Errorf("EraseUnitLines gives %.500s", unitForm(got))
	}
	if u.Records[0].Line != -3 || u.Procedures[0].Line != math.MinInt || u.Procedures[0].Body.Line != 5 {
		t.Errorf("EraseUnitLines changed its argument to %.500s", unitForm(u))
	}
}

// overwriteUnit changes everything in a unit, and the memory behind its lists too.
func overwriteUnit(u *impl.Unit) {
	for _, place := range namePlaces(u) {
		*place = "other"
	}
	for i := range u.Procedures {
		overwrite(&u.Procedures[i].Body)
		p := &u.Procedures[i]
		p.Line, p.Params, p.Locals = -1, append(p.Params, "more"), append(p.Locals, "more")
	}
	for i := range u.Records {
		u.Records[i].Line, u.Records[i].Fields = -1, append(u.Records[i].Fields, "more")
	}
	u.Records, u.Globals, u.Procedures = append(u.Records, impl.RecordType{Name: "more"}), append(u.Globals, "more"), append(u.Procedures, impl.Procedure{Name: "more"})
}

func TestErasedUnitsShareNoMemory(t *testing.T) {
	// All lists of names of the argument are parts of one, with some memory behind them.
	names := []string{"a", "b", "c", "d", "spare"}
	u := sampleUnit()
	u.Records[0].Fields, u.Globals, u.Procedures[0].Params, u.Procedures[0].Locals, u.Procedures[1].Params = names[:2], names[1:3], names[:3], names[2:2], names[:4]
	for _, u := range []impl.Unit{sampleUnit(), u} {
		before, want := copiedUnit(u), linelessUnit(u)
		first, second := impl.EraseUnitLines(u), impl.EraseUnitLines(u)
		overwriteUnit(&first)
		if !reflect.DeepEqual(u, before) || !sameUnits(second, want) || names[4] != "spare" {
			t.Errorf("the erased unit shares memory with its argument or with another result: %s", unitForm(u))
		}
		overwriteUnit(&u)
		if !sameUnits(second, want) {
			t.Errorf("the erased unit shares memory with its argument: %s", unitForm(second))
		}
	}
	text := []byte("shared")
	shared := unsafe.String(&text[0], len(text))
	u = impl.Unit{
		Records: []impl.RecordType{{Name: shared, Fields: []string{shared}}}, Globals: []string{shared},
		Procedures: []impl.Procedure{{Name: shared, Params: []string{shared}, Locals: []string{shared}, Body: impl.Expr{Kind: impl.ExprBlock, Kids: []impl.Expr{{Kind: impl.ExprName, Text: shared}}}}},
	}
	erased := impl.EraseUnitLines(u)
	clear(text)
	for _, place := range namePlaces(&erased) {
		if *place != "shared" {
			t.Errorf("a name shares memory with the argument: %s", unitForm(erased))
		}
	}
	if erased.Procedures[0].Body.Kids[0].Text != "shared" {
		t.Errorf("the body shares memory with the argument: %s", unitForm(erased))
	}
}

// The bytes of the source are changed after the call: what shares them would change too.
func TestParsedTreesShareNoMemory(t *testing.T) {
	everything := "{name; 12; \"text\"; 'text'; &letters; -name.field; a |||:= b; defer later; f(a, b)[c][d : e]; (a, b); [a, b]; if a then b else c; case a of {1 : b; default : c}; 1 to 2 by 3}"
	source := []byte("record pair(left, right)\nglobal first, second\nprocedure main(a, b) local c, d;" + everything + " end procedure other() end")
	plain := string(source)
	u, line := impl.ParseUnit(unsafe.String(&source[0], len(source)))
	again, _ := impl.ParseUnit(plain)
	want := unitForm(again)
	if line != 0 || unitForm(u) != want || string(source) != plain {
		t.Fatalf("ParseUnit(%q) = %s, %d", plain, unitForm(u), line)
	}
	clear(source)
	overwriteUnit(&again)
	if unitForm(u) != want {
		t.Errorf("the unit shares memory with its source or with another result: %s", unitForm(u))
	}
	source = []byte(everything)
	e, line := impl.ParseExpression(unsafe.String(&source[0], len(source)))
	other, _ := impl.ParseExpression(everything)
	wantForm := linedForm(other)
	if line != 0 || linedForm(e) != wantForm {
		t.Fatalf("ParseExpression(%q) = %s, %d", everything, linedForm(e), line)
	}
	clear(source)
	overwrite(&other)
	if linedForm(e) != wantForm {
		t.Errorf("the tree shares memory with its source or with another result: %s", linedForm(e))
	}
	// A kid more in one node is no kid of another one.
	changeNodes(&e, func(node *impl.Expr) { node.Kids = append(node.Kids, impl.Expr{Kind: impl.ExprNext}) })
	count := 0
	changeNodes(&e, func(node *impl.Expr) {
		if node.Kind != impl.ExprNext {
			count++
		}
	})
	if fresh, _ := impl.ParseExpression(everything); count != countOf(fresh) {
		t.Errorf("two slices of one tree share memory: %s", linedForm(e))
	}
	for _, list := range []*[]string{&u.Records[0].Fields, &u.Procedures[0].Params, &u.Procedures[0].Locals, &u.Globals} {
		*list = append(*list, "more")
	}
	if got := strings.ReplaceAll(strings.ReplaceAll(unitForm(u), " more", ""), "(more)", "()"); got != want {
		t.Errorf("two slices of one unit share memory: %s", unitForm(u))
	}
}

// checkTotal expects results that go together: a valid one without an error, or the zero value and a line of the source.
func checkTotal(t *testing.T, source string) {
	t.Helper()
	lines := 1 + strings.Count(source, "\n")
	_, line := parsedExpression(t, source)
	u, unitLine := parsedUnit(t, source)
	if line > lines || unitLine > lines {
		t.Fatalf("the errors of %.200q are in the lines %d and %d", source, line, unitLine)
	}
	if unitLine == 0 {
		checkUnit(t, u, true)
	}
	if lexed, lexLine := impl.Lex(source); lexLine != 0 && (line != lexLine || unitLine != lexLine || lexed != nil) {
		t.Fatalf("the errors of %.200q are in the lines %d and %d, but Lex finds one in line %d", source, line, unitLine, lexLine)
	}
}

func TestParserOfAnySource(t *testing.T) {
	random := rand.New(rand.NewPCG(7, 5))
	for _, source := range wrongTokens() {
		checkTotal(t, source)
		checkTotal(t, "x := "+source)
		checkTotal(t, "procedure p()\n"+source+"\nend")
	}
	pieces := append(sampleTokens(), wordsOf(reservedList, operatorList)...)
	for i := range 5000 {
		bytes := make([]byte, random.IntN(40))
		for j := range bytes {
			bytes[j] = byte(random.IntN(256))
		}
		checkTotal(t, string(bytes))
		checkTotal(t, randomSource(random, pieces, []string{" ", "\n", "", ";"}))
		checkTotal(t, "procedure p() "+randomSource(random, pieces, []string{" ", "\n", ";"}))
		if i%10 == 0 {
			checkTotal(t, strings.Repeat(pieces[random.IntN(len(pieces))]+" ", random.IntN(maxSource))+"\n"+pieces[random.IntN(len(pieces))])
		}
	}
	for _, size := range []int{maxSource - 1, maxSource, maxSource + 1, 1000000} {
		for _, word := range []string{"(", "[", "{", "-", "x", "x ", "x;", "x\n", ";", "\n", ".", "x.", "not ", "if ", "x:=", "1 to ", "record r();", "global g;", "procedure p()end;", "case ", "suspend ", "\""} {
			checkTotal(t, strings.Repeat(word, size/len(word)))
		}
	}
}

func TestParserKeepsNoState(t *testing.T) {
	for range 3 {
		checkLined(t, "a +\nb", "(a@1 +@1 b@2)")
		checkExpressionError(t, "a +\n)", 2)
		checkUnitSource(t, "record r(a)\nglobal g\nprocedure p(b)\nlocal c\nc\nend", "record@1 r(a); global g; procedure@3 p(b) [c] block@3(c@5)")
		checkUnitError(t, "global g\nglobal", 2)
		checkExpressionError(t, strings.Repeat("(\n", 300), 201)
		checkExpressionError(t, "", 1)
		checkUnitSource(t, "", "")
		checkExpression(t, "b", "b")
		checkUnitError(t, "$", 1)
		checkUnit(t, sampleUnit(), true)
		checkUnit(t, impl.Unit{Globals: []string{"if"}}, false)
	}
}
