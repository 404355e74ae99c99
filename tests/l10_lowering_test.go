package tests

import (
	"fmt"
	"math"
	"math/rand/v2"
	"reflect"
	"regexp"
	"slices"
	"strconv"
	"strings"
	"testing"
	"unsafe"

	"loop.example/g03106/impl"
)

const (
	maxCoreNodes = 40000
	maxCoreDepth = 400
)

// coreWords are the names of the kinds of core nodes; the first kind has the number 1.
var coreWords = wordsOf("integer string cset null local global procedure function constructor keyword operate call alternate repeat limit block if while every break next scan return fail suspend create activate none")

// operatorNumbers are the operators of the chapter; the number of the first one of each group stands before it.
const operatorNumbers = `1 - + * / \ ~ ! = ^ . .> 20 + - * / % ^ 30 < <= = >= > ~= 40 << <<= == >>= >> ~== === ~=== 50 || ||| ++ -- ** 60 := <- :=: <->
	70 [] [:] to & [...] ?? .| -> => field 81 defer 220 +:= -:= *:= /:= %:= ^:= 250 ||:= |||:= ++:= --:= **:=`

// operatorTexts are the texts of all operators by the list.
var operatorTexts = func() map[int]string {
	texts, number := map[int]string{}, 0
	for _, word := range wordsOf(operatorNumbers) {
		if first, err := strconv.Atoi(word); err == nil {
			number = first
			continue
		}
		texts[number] = word
		number++
	}
	return texts
}()

// arityByRule is OperatorArity by definition.
func arityByRule(op int) [2]int {
	switch {
	case operatorTexts[op] == "":
		return [2]int{0, -1}
	case op < 12 || op == 81:
		return [2]int{1, 1}
	case op == 71 || op == 72:
		return [2]int{3, 3}
	case op == 73:
		return [2]int{2, 8}
	case op == 74:
		return [2]int{0, 8}
	}
	return [2]int{2, 2}
}

// coreRule is what the chapter says of one kind of core nodes; a CoreOperate has the kids of its operator.
type coreRule struct {
	fewest int
	most   int
}

// coreRuleOf is the rule of a kind with an operator.
func coreRuleOf(kind int, op int) coreRule {
	switch word := coreWord(kind); {
	case word == "operate":
		arity := arityByRule(op)
		return coreRule{arity[0], arity[1]}
	case word == "call":
		return coreRule{1, 9}
	case word == "block":
		return coreRule{1, 24}
	case listed("repeat break return create activate", word):
		return coreRule{1, 1}
	case listed("alternate limit while every scan suspend", word):
		return coreRule{2, 2}
	case word == "if":
		return coreRule{3, 3}
	case word == "?":
		return coreRule{0, -1}
	}
	return coreRule{0, 0}
}

// coreWord is the name of a kind.
func coreWord(kind int) string {
	if kind < 1 || kind > len(coreWords) {
		return "?"
	}
	return coreWords[kind-1]
}

// kindOf is the kind of core nodes with a name.
func kindOf(word string) int {
	return slices.Index(coreWords, word) + 1
}

// coreForm is FormatCore by definition.
func coreForm(c impl.Core) string {
	text := coreWord(c.Kind)
	switch {
	case listed("string cset", text):
		text += ":" + quotedBytes(c.Text, '"')
	case text == "operate":
		text += ":" + operatorTexts[c.Op]
	case listed("integer local global procedure function constructor keyword", text):
		text += ":" + strconv.Itoa(c.Number)
	}
	if len(c.Kids) == 0 {
		return text
	}
	var kids []string
	for _, kid := range c.Kids {
		kids = append(kids, coreForm(kid))
	}
	return text + "(" + strings.Join(kids, ", ") + ")"
}

// coreTotal is CountCore by definition.
func coreTotal(c impl.Core) int {
	total := 1
	for _, kid := range c.Kids {
		total += coreTotal(kid)
	}
	return total
}

// coreHeight is the depth of a core tree.
func coreHeight(c impl.Core) int {
	below := 0
	for _, kid := range c.Kids {
		below = max(below, coreHeight(kid))
	}
	return 1 + below
}

// changeCores applies a change to every node of a core tree, to a node after its kids.
func changeCores(c *impl.Core, change func(node *impl.Core)) {
	for i := range c.Kids {
		changeCores(&c.Kids[i], change)
	}
	change(c)
}

// copiedCore is a core tree with new memory everywhere.
func copiedCore(c impl.Core) impl.Core {
	c.Text, c.Kids = strings.Clone(c.Text), slices.Clone(c.Kids)
	for i := range c.Kids {
		c.Kids[i] = copiedCore(c.Kids[i])
	}
	return c
}

// sameCores reports whether two core trees are equal in all fields; nil and empty kids are equal.
func sameCores(a impl.Core, b impl.Core) bool {
	return a.Kind == b.Kind && a.Op == b.Op && a.Number == b.Number && a.Line == b.Line && a.Text == b.Text && slices.EqualFunc(a.Kids, b.Kids, sameCores)
}

// samePrograms is sameCores for programs.
func samePrograms(a impl.Program, b impl.Program) bool {
	sameRecords := func(a, b impl.RecordType) bool {
		return a.Name == b.Name && slices.Equal(a.Fields, b.Fields) && a.Line == b.Line
	}
	sameRoutines := func(a, b impl.Routine) bool {
		return a.Name == b.Name && a.Params == b.Params && slices.Equal(a.Slots, b.Slots) && sameCores(a.Body, b.Body)
	}
	return slices.EqualFunc(a.Routines, b.Routines, sameRoutines) && slices.EqualFunc(a.Records, b.Records, sameRecords) && slices.Equal(a.Globals, b.Globals) && a.Main == b.Main
}

// copiedProgram is a program with new memory everywhere.
func copiedProgram(p impl.Program) impl.Program {
	p.Routines, p.Records, p.Globals = slices.Clone(p.Routines), slices.Clone(p.Records), copiedTexts(p.Globals)
	for i, r := range p.Routines {
		p.Routines[i] = impl.Routine{Name: strings.Clone(r.Name), Params: r.Params, Slots: copiedTexts(r.Slots), Body: copiedCore(r.Body)}
	}
	for i, r := range p.Records {
		p.Records[i] = impl.RecordType{Name: strings.Clone(r.Name), Fields: copiedTexts(r.Fields), Line: r.Line}
	}
	return p
}

// linelessProgram is a program with every Line of its bodies and records 0.
func linelessProgram(p impl.Program) impl.Program {
	p = copiedProgram(p)
	for i := range p.Routines {
		changeCores(&p.Routines[i].Body, func(node *impl.Core) { node.Line = 0 })
	}
	for i := range p.Records {
		p.Records[i].Line = 0
	}
	return p
}

// programForm writes a program with everything that it has.
func programForm(p impl.Program) string {
	return fmt.Sprintf("main %d, records %v, globals %v, routines %+v", p.Main, p.Records, p.Globals, p.Routines)
}

// coreReader reads core trees from text: the name of a kind; a colon and the number of the node, that of its operator, or its quoted text; @ and a line, where it is not the line of the reader; kids in brackets. $ and a number is one of the given kids, and $* are all of them.
type coreReader struct {
	rest  string
	line  int
	given []impl.Core
}

var (
	coreHead  = regexp.MustCompile(`\A([a-z]+)(?::(-?[0-9]+|"(?:[^"\\]|\\.)*"))?(?:@([0-9]+))?`)
	coreGiven = regexp.MustCompile(`\A\$([0-9]+|\*)`)
)

// take takes what a pattern matches at the beginning of the rest.
func (r *coreReader) take(pattern *regexp.Regexp) []string {
	found := pattern.FindStringSubmatch(r.rest)
	if found != nil {
		r.rest = strings.TrimLeft(r.rest[len(found[0]):], " ")
	}
	return found
}

// trees reads one tree, or all given ones.
func (r *coreReader) trees() []impl.Core {
	if given := r.take(coreGiven); given != nil {
		if given[1] == "*" {
			return r.given
		}
		number, _ := strconv.Atoi(given[1])
		return r.given[number : number+1]
	}
	head := r.take(coreHead)
	if head == nil || kindOf(head[1]) == 0 {
		panic("no core tree: " + r.rest)
	}
	node := impl.Core{Kind: kindOf(head[1]), Line: r.line}
	number, _ := strconv.Atoi(head[2])
	switch {
	case strings.HasPrefix(head[2], `"`):
		node.Text, _ = strconv.Unquote(head[2])
	case head[1] == "operate":
		node.Op = number
	default:
		node.Number = number
	}
	if head[3] != "" {
		node.Line, _ = strconv.Atoi(head[3])
	}
	for separator := "("; strings.HasPrefix(r.rest, separator); separator = "," {
		r.rest = strings.TrimLeft(r.rest[1:], " ")
		node.Kids = append(node.Kids, r.trees()...)
	}
	if strings.HasPrefix(r.rest, ")") && node.Kids != nil {
		r.rest = strings.TrimLeft(r.rest[1:], " ")
	}
	return []impl.Core{node}
}

// coreOf is the core tree with a form. Nodes without a line are in the given one.
func coreOf(form string, line int, given ...impl.Core) impl.Core {
	r := coreReader{form, line, given}
	trees := r.trees()
	if r.rest != "" || len(trees) != 1 {
		panic("not one core tree: " + form)
	}
	return trees[0]
}

// core is coreOf in line 0.
func core(form string) impl.Core {
	return coreOf(form, 0)
}

// The translations of names, by the numbers of their meanings, and of keywords.
var (
	nameForms    = [6]string{"", "local", "global", "procedure", "function", "constructor"}
	keywordForms = map[string]string{
		"null": "null", "fail": "none", "subject": "keyword:1", "pos": "keyword:2", "lcase": `cset:"abcdefghijklmnopqrstuvwxyz"`, "ucase": `cset:"ABCDEFGHIJKLMNOPQRSTUVWXYZ"`,
		"letters": `cset:"ABCDEFGHIJKLMNOPQRSTUVWXYZabcdefghijklmnopqrstuvwxyz"`, "digits": `cset:"0123456789"`,
	}
)

// numberOfOperator is the number of an operator with a text from one number to another.
func numberOfOperator(text string, from int, to int) int {
	for op := from; op <= to; op++ {
		if operatorTexts[op] == text {
			return op
		}
	}
	panic("no operator: " + text)
}

// caseForm is the form of the translation of a case with a slot.
func caseForm(e impl.Expr, slot int) string {
	kids, last := len(e.Kids), "none"
	if e.Number == 1 {
		kids--
		last = fmt.Sprintf("$%d", kids)
	}
	form := fmt.Sprintf("if(operate:60(local:%d, $0), ", slot)
	for i := 1; i < kids; i += 2 {
		form += fmt.Sprintf("if(operate:46(local:%d, $%d), $%d, ", slot, i, i+1)
	}
	return form + last + strings.Repeat(")", (kids-1)/2) + ", none)"
}

// operatorForm is the form of the translation of a unary or binary operator.
func operatorForm(e impl.Expr) string {
	special := map[string]string{"1|": "repeat($0)", "1@": "activate($0)", "2?": "scan($0, $1)", "2|": "alternate($0, $1)", "2\\": "limit($0, $1)"}
	if form := special[strconv.Itoa(len(e.Kids))+e.Text]; form != "" {
		return form
	}
	if e.Kind == impl.ExprUnary {
		return fmt.Sprintf("operate:%d($0)", numberOfOperator(e.Text, 1, 11))
	}
	return fmt.Sprintf("operate:%d($0, $1)", numberOfOperator(e.Text, 20, 254))
}

// A lowering translates one procedure by the rules of the chapter.
type lowering struct {
	unit   impl.Unit
	locals []string
}

func (l lowering) nameForm(name string) string {
	meaning := meaningByRule(l.unit, l.locals, name)
	return fmt.Sprintf("%s:%d", nameForms[meaning[0]], meaning[1])
}

// formOf is the form of the translation of a node; slot is that of a case.
func (l lowering) formOf(e impl.Expr, slot int) string {
	switch e.Kind {
	case impl.ExprInteger:
		return "integer:" + strconv.Itoa(e.Number)
	case impl.ExprString:
		return "string:" + strconv.Quote(e.Text)
	case impl.ExprCset:
		return "cset:" + strconv.Quote(e.Text)
	case impl.ExprName:
		return l.nameForm(e.Text)
	case impl.ExprKeyword:
		return keywordForms[e.Text]
	case impl.ExprUnary, impl.ExprBinary:
		return operatorForm(e)
	case impl.ExprField:
		return "operate:79($0, string:" + strconv.Quote(e.Text) + ")"
	case impl.ExprCase:
		return caseForm(e, slot)
	case impl.ExprDefer:
		return "operate:81(" + l.nameForm(e.Text) + ")"
	}
	// The others by the numbers of their kids: the last form holds for all further numbers.
	forms := map[int][]string{
		impl.ExprList: {"operate:74", "operate:74($*)"}, impl.ExprTo: {"", "", "operate:72($0, $1, integer:1)", "operate:72($0, $1, $2)"}, impl.ExprCall: {"", "call($*)"}, impl.ExprIndex: {"", "", "operate:70($0, $1)"},
		impl.ExprSection: {"", "", "", "operate:71($0, $1, $2)"}, impl.ExprBlock: {"null", "block($*)"}, impl.ExprIf: {"", "", "if($0, $1, none)", "if($0, $1, $2)"}, impl.ExprWhile: {"", "while($0, null)", "while($0, $1)"},
		impl.ExprUntil: {"", "while(if($0, none, null), null)", "while(if($0, none, null), $1)"}, impl.ExprEvery: {"", "every($0, null)", "every($0, $1)"}, impl.ExprRepeat: {"", "while(null, $0)"},
		impl.ExprReturn: {"return(null)", "return($0)"}, impl.ExprSuspend: {"suspend(null, null)", "suspend($0, null)", "suspend($0, $1)"}, impl.ExprFail: {"fail"}, impl.ExprBreak: {"break(null)", "break($0)"}, impl.ExprNext: {"next"},
		impl.ExprCreate: {"", "create($0)"}, impl.ExprNot: {"", "if($0, none, null)"}, impl.ExprMutual: {"", "", "operate:73($*)"},
	}[e.Kind]
	return forms[min(len(e.Kids), len(forms)-1)]
}

// casesIn is the number of cases of a tree.
func casesIn(e impl.Expr) int {
	cases := 0
	changeNodes(&e, func(node *impl.Expr) {
		if node.Kind == impl.ExprCase {
			cases++
		}
	})
	return cases
}

// core is the translation of a tree before which there are some slots.
func (l lowering) core(e impl.Expr, slots int) impl.Core {
	var kids []impl.Core
	next := slots
	if e.Kind == impl.ExprCase {
		next++
	}
	for _, kid := range e.Kids {
		kids = append(kids, l.core(kid, next))
		next += casesIn(kid)
	}
	return coreOf(l.formOf(e, slots), e.Line, kids...)
}

// programByRule is LowerUnit by definition, for a unit without faults.
func programByRule(u impl.Unit) impl.Program {
	p := impl.Program{Records: u.Records, Globals: u.Globals, Main: slices.Index(procedureNames(u), "main")}
	for i, procedure := range u.Procedures {
		locals := localsByRule(u, i)
		routine := impl.Routine{Name: procedure.Name, Params: len(procedure.Params), Slots: append(slices.Clone(locals), make([]string, casesIn(procedure.Body))...)}
		routine.Body = lowering{u, locals}.core(procedure.Body, len(locals))
		p.Routines = append(p.Routines, routine)
	}
	return p
}

// A corePlace is a core node with the steps that lead to it: the kinds of the nodes above it, and the indices of their kids.
type corePlace struct {
	node  impl.Core
	steps [][2]int
}

// corePlaces are the places of all nodes of a core tree.
func corePlaces(c impl.Core, steps ...[2]int) []corePlace {
	places := []corePlace{{c, steps}}
	for i, kid := range c.Kids {
		places = append(places, corePlaces(kid, append(slices.Clone(steps), [2]int{c.Kind, i})...)...)
	}
	return places
}

// isInLoop is the definition of being in a loop, for every loop around the node.
func (p corePlace) isInLoop() bool {
	isLoop := func(step [2]int, kid int) bool {
		return listed("while every", coreWord(step[0])) && step[1] == kid
	}
	parts := func(step [2]int) bool { return listed("break create", coreWord(step[0])) || isLoop(step, 0) }
	for i, step := range p.steps {
		if isLoop(step, 1) && !slices.ContainsFunc(p.steps[i+1:], parts) {
			return true
		}
	}
	return false
}

func (p corePlace) isInCreate() bool {
	return slices.ContainsFunc(p.steps, func(step [2]int) bool { return coreWord(step[0]) == "create" })
}

// numbersByRule are the least and the greatest Number of a kind in a routine.
func numbersByRule(p impl.Program, r impl.Routine, kind int) [2]int {
	switch coreWord(kind) {
	case "integer":
		return [2]int{-maxInteger, maxInteger}
	case "local":
		return [2]int{0, len(r.Slots) - 1}
	case "global":
		return [2]int{0, len(p.Globals) - 1}
	case "procedure":
		return [2]int{0, len(p.Routines) - 1}
	case "function":
		return [2]int{0, 54}
	case "constructor":
		return [2]int{0, len(p.Records) - 1}
	case "keyword":
		return [2]int{1, 2}
	}
	return [2]int{0, 0}
}

// followsCoreRules reports whether a node satisfies the rules for nodes of valid programs.
func followsCoreRules(p impl.Program, r impl.Routine, place corePlace) bool {
	node := place.node
	word, rule, numbers := coreWord(node.Kind), coreRuleOf(node.Kind, node.Op), numbersByRule(p, r, node.Kind)
	rightText := node.Text == "" || word == "string" && len(node.Text) <= maxText || word == "cset" && isAscending(node.Text)
	rightOp := node.Op == 0 || word == "operate"
	if node.Line < 0 || len(node.Kids) < rule.fewest || len(node.Kids) > rule.most || !rightText || !rightOp || node.Number < numbers[0] || node.Number > numbers[1] {
		return false
	}
	if node.Op == 79 && (coreWord(node.Kids[1].Kind) != "string" || !ruleOf(impl.ExprName).text(node.Kids[1].Text)) || node.Op == 81 && !listed("local global", coreWord(node.Kids[0].Kind)) {
		return false
	}
	return !(listed("break next", word) && !place.isInLoop() || listed("return fail suspend", word) && place.isInCreate())
}

// followProgramRules is IsValidProgram by definition.
func followProgramRules(p impl.Program) bool {
	isName := ruleOf(impl.ExprName).text
	isNoName := func(s string) bool { return !isName(s) }
	if len(p.Routines) < 1 || len(p.Routines) > 12 || len(p.Records) > 8 || len(p.Globals) > 12 || slices.ContainsFunc(p.Globals, isNoName) {
		return false
	}
	if p.Main < 0 || p.Main >= len(p.Routines) || p.Routines[p.Main].Params != 0 {
		return false
	}
	for _, r := range p.Records {
		if !isName(r.Name) || len(r.Fields) > 6 || haveTwins(r.Fields) || slices.ContainsFunc(r.Fields, isNoName) || r.Line < 0 {
			return false
		}
	}
	nodes := 0
	for _, r := range p.Routines {
		if !isName(r.Name) || len(r.Slots) > maxSlots || slices.ContainsFunc(r.Slots, func(s string) bool { return s != "" && !isName(s) }) || r.Params < 0 || r.Params > len(r.Slots) {
			return false
		}
		nodes += coreTotal(r.Body)
		if nodes > maxCoreNodes || coreHeight(r.Body) > maxCoreDepth {
			return false
		}
		for _, place := range corePlaces(r.Body) {
			if !followsCoreRules(p, r, place) {
				return false
			}
		}
	}
	return true
}

// checkCore compares the functions of a core tree with their definitions, and expects them to leave the tree as it was.
func checkCore(t *testing.T, c impl.Core) {
	t.Helper()
	before := copiedCore(c)
	if got, want := impl.CountCore(c), coreTotal(c); got != want {
		t.Fatalf("CountCore(%.500s) = %d, want %d", fmt.Sprint(c), got, want)
	}
	if got, want := impl.FormatCore(c), coreForm(c); got != want {
		t.Fatalf("FormatCore(%.500s) = %.500q, want %.500q", fmt.Sprint(c), got, want)
	}
	if !reflect.DeepEqual(c, before) {
		t.Fatalf("%.500s was changed to %.500s", fmt.Sprint(before), fmt.Sprint(c))
	}
}

// checkProgram expects whether a program is valid, and that it is left as it was.
func checkProgram(t *testing.T, p impl.Program, valid bool) {
	t.Helper()
	before := copiedProgram(p)
	if got := impl.IsValidProgram(p); got != valid {
		t.Fatalf("IsValidProgram(%.2000s) = %v", programForm(p), got)
	}
	if !reflect.DeepEqual(p, before) {
		t.Fatalf("%.500s was changed to %.500s", programForm(before), programForm(p))
	}
}

// checkProgramByRule expects that a program is valid if it follows the rules, and returns whether it does.
func checkProgramByRule(t *testing.T, p impl.Program) bool {
	t.Helper()
	valid := followProgramRules(p)
	checkProgram(t, p, valid)
	return valid
}

// checkLowering compares LowerUnit with its definition: a unit without faults gives the valid program that follows from the rules, and another unit the zero Program (P10). It returns the program.
func checkLowering(t *testing.T, u impl.Unit) (impl.Program, bool) {
	t.Helper()
	before := copiedUnit(u)
	isFine := followUnitRules(u) && len(faultsByRule(u)) == 0
	if code, _ := impl.CheckUnit(u); (code == impl.CheckFine) != isFine {
		t.Fatalf("CheckUnit(%.1000s) is %d", unitForm(u), code)
	}
	p, ok := impl.LowerUnit(u)
	want := impl.Program{}
	if isFine {
		want = programByRule(u)
	}
	if ok != isFine || !samePrograms(p, want) {
		t.Fatalf("LowerUnit(%.1000s) = %.3000s, %v, want %.3000s, %v", unitForm(u), programForm(p), ok, programForm(want), isFine)
	}
	if isFine && (!impl.IsValidProgram(p) || !followProgramRules(p)) {
		t.Fatalf("LowerUnit(%.1000s) = %.3000s is not valid", unitForm(u), programForm(p))
	}
	if !reflect.DeepEqual(u, before) {
		t.Fatalf("%.500s was changed to %.500s", unitForm(before), unitForm(u))
	}
	return p, ok
}

// checkPrintedLowering expects that the program of the printed form of a unit is that of the unit, but for its lines (P8). It reports whether there is such a form.
func checkPrintedLowering(t *testing.T, u impl.Unit) bool {
	t.Helper()
	text, printed := impl.PrintUnit(u)
	if !printed {
		return false
	}
	again, _ := parsedUnit(t, text)
	want, wantOK := impl.LowerUnit(u)
	got, ok := impl.LowerUnit(again)
	if ok != wantOK || !samePrograms(linelessProgram(got), linelessProgram(want)) {
		t.Fatalf("LowerUnit of %.1000q = %.1000s, %v, want %.1000s, %v", text, programForm(got), ok, programForm(want), wantOK)
	}
	return true
}

// loweredSource is the program of a source, which must have one.
func loweredSource(t *testing.T, source string) impl.Program {
	t.Helper()
	u, line := parsedUnit(t, source)
	p, ok := checkLowering(t, u)
	if line != 0 || !ok {
		code, at := impl.CheckUnit(u)
		t.Fatalf("%.500q has an error in line %d, or the fault %d in line %d", source, line, code, at)
	}
	return p
}

// checkBody expects the form of the only statement of main.
func checkBody(t *testing.T, statement string, want string) {
	t.Helper()
	source := "record pair(head, tail) record single(down) global g, h procedure p(a, b) end procedure main() " + statement + "\nend"
	p := loweredSource(t, source)
	if got := impl.FormatCore(p.Routines[1].Body); got != "block("+want+")" {
		t.Errorf("the body with %.300q is %.600s, want %.600s in a block", statement, got, want)
	}
}

func TestCoreConstants(t *testing.T) {
	if impl.MaxCoreNodes != maxCoreNodes || impl.MaxCoreDepth != maxCoreDepth {
		t.Errorf("MaxCoreNodes is %d, MaxCoreDepth is %d", impl.MaxCoreNodes, impl.MaxCoreDepth)
	}
	kinds := []int{
		impl.CoreInteger, impl.CoreString, impl.CoreCset, impl.CoreNull, impl.CoreLocal, impl.CoreGlobal, impl.CoreRoutine, impl.CoreFunction, impl.CoreConstructor, impl.CoreKeyword, impl.CoreOperate, impl.CoreCall, impl.CoreAlternate, impl.CoreRepeat,
		impl.CoreLimit, impl.CoreBlock, impl.CoreIf, impl.CoreWhile, impl.CoreEvery, impl.CoreBreak, impl.CoreNext, impl.CoreScan, impl.CoreReturn, impl.CoreFail, impl.CoreSuspend, impl.CoreCreate, impl.CoreActivate, impl.CoreNone,
	}
	for i, kind := range kinds {
		if kind != i+1 {
			t.Errorf("the kind with the number %d has the value %d", i+1, kind)
		}
	}
	if len(kinds) != 28 || len(coreWords) != 28 || len(operatorTexts) != 11+6+6+8+5+4+10+1+6+5 {
		t.Errorf("there are %d kinds, %d names of kinds and %d operators", len(kinds), len(coreWords), len(operatorTexts))
	}
}

func TestOperators(t *testing.T) {
	for op, want := range map[int]string{
		1: "-", 2: "+", 5: "\\", 8: "=", 10: ".", 11: ".>", 20: "+", 21: "-", 25: "^", 30: "<", 35: "~=", 40: "<<", 46: "===", 47: "~===", 50: "||", 51: "|||", 54: "**", 60: ":=", 61: "<-", 62: ":=:", 63: "<->",
		70: "[]", 71: "[:]", 72: "to", 73: "&", 74: "[...]", 75: "??", 76: ".|", 77: "->", 78: "=>", 79: "field", 81: "defer", 220: "+:=", 221: "-:=", 225: "^:=", 250: "||:=", 251: "|||:=", 254: "**:=",
		0: "", 12: "", 19: "", 26: "", 29: "", 36: "", 39: "", 48: "", 49: "", 55: "", 59: "", 64: "", 69: "", 80: "", 82: "", 219: "", 226: "", 230: "", 235: "", 240: "", 247: "", 249: "", 255: "", 260: "", 281: "", -1: "", 201: "", 400: "",
	} {
		if got := impl.OperatorText(op); got != want || operatorTexts[op] != want {
			t.Errorf("OperatorText(%d) = %q, want %q", op, got, want)
		}
	}
	numbers := append(extremeInts(), 1<<32+20, 1<<32+220, math.MinInt+200, math.MinInt+220, math.MinInt+225, math.MaxInt-200)
	for op := -1000; op <= 1000; op++ {
		numbers = append(numbers, op)
	}
	for _, op := range numbers {
		fewest, most := impl.OperatorArity(op)
		if got, want := [2]int{fewest, most}, arityByRule(op); impl.OperatorText(op) != operatorTexts[op] || got != want {
			t.Errorf("operator %d has the text %q and the arity %v, want %q and %v", op, impl.OperatorText(op), got, operatorTexts[op], want)
		}
	}
}

// The translations of the chapter letter by letter.
func TestLoweredStatements(t *testing.T) {
	for _, c := range [][2]string{
		{"0", "integer:0"}, {"999999999999", "integer:999999999999"}, {`""`, `string:""`}, {`"a\n\"\xff"`, `string:"a\n\"\xff"`}, {"''", `cset:""`}, {`'ba"\''`, `cset:"\"'ab"`},
		{"x", "local:0"}, {"g", "global:0"}, {"h", "global:1"}, {"p", "procedure:0"}, {"main", "procedure:1"}, {"write", "function:0"}, {"Fail", "function:54"}, {"find", "function:20"}, {"pair", "constructor:0"}, {"single", "constructor:1"},
		{"&null", "null"}, {"&fail", "none"}, {"&subject", "keyword:1"}, {"&pos", "keyword:2"}, {"&lcase", `cset:"abcdefghijklmnopqrstuvwxyz"`}, {"&ucase", `cset:"ABCDEFGHIJKLMNOPQRSTUVWXYZ"`},
		{"&letters", `cset:"ABCDEFGHIJKLMNOPQRSTUVWXYZabcdefghijklmnopqrstuvwxyz"`}, {"&digits", `cset:"0123456789"`},
		{"[]", "operate:[...]"}, {"[x]", "operate:[...](local:0)"}, {"[x, 1, y]", "operate:[...](local:0, integer:1, local:1)"}, {"|x", "repeat(local:0)"}, {"@x", "activate(local:0)"}, {"-x", "operate:-(local:0)"}, {"=x", "operate:=(local:0)"}, {".>x", "operate:.>(local:0)"},
		{"x & y", "operate:&(local:0, local:1)"}, {"x & y & z", "operate:&(operate:&(local:0, local:1), local:2)"}, {"x ? y", "scan(local:0, local:1)"}, {"x | y", "alternate(local:0, local:1)"}, {"x \\ y", "limit(local:0, local:1)"}, {"x .| y", "operate:.|(local:0, local:1)"},
		{"x || y", "operate:||(local:0, local:1)"}, {"x |||:= y", "operate:|||:=(local:0, local:1)"}, {"x := y := z", "operate::=(local:0, operate::=(local:1, local:2))"}, {"x -> y", "operate:->(local:0, local:1)"},
		{"x to y", "operate:to(local:0, local:1, integer:1)"}, {"x to y by z", "operate:to(local:0, local:1, local:2)"}, {"x()", "call(local:0)"}, {"x(y, 2)", "call(local:0, local:1, integer:2)"}, {"x[y]", "operate:[](local:0, local:1)"}, {"x[y : z]", "operate:[:](local:0, local:1, local:2)"},
		{"x.head", `operate:field(local:0, string:"head")`}, {"(x, y, z)", "operate:&(local:0, local:1, local:2)"}, {"(x)", "local:0"}, {"defer x", "operate:defer(local:0)"}, {"defer h", "operate:defer(global:1)"}, {"{}", "null"}, {"{;}", "null"}, {"{x}", "block(local:0)"}, {"{x; y}", "block(local:0, local:1)"},
		{"if x then y", "if(local:0, local:1, none)"}, {"if x then y else z", "if(local:0, local:1, local:2)"}, {"while x", "while(local:0, null)"}, {"while x do y", "while(local:0, local:1)"}, {"until x", "while(if(local:0, none, null), null)"}, {"until x do y", "while(if(local:0, none, null), local:1)"},
		{"every x", "every(local:0, null)"}, {"every x do y", "every(local:0, local:1)"}, {"repeat x", "while(null, local:0)"}, {"not x", "if(local:0, none, null)"}, {"not not x", "if(if(local:0, none, null), none, null)"},
		{"return", "return(null)"}, {"return x", "return(local:0)"}, {"suspend", "suspend(null, null)"}, {"suspend x", "suspend(local:0, null)"}, {"suspend x do y", "suspend(local:0, local:1)"}, {"fail", "fail"}, {"create x", "create(local:0)"},
		{"repeat break", "while(null, break(null))"}, {"repeat break x", "while(null, break(local:0))"}, {"repeat next", "while(null, next)"}, {"every x do {next; break y}", "every(local:0, block(next, break(local:1)))"},
		{"case x of {}", "if(operate::=(local:1, local:0), none, none)"}, {"case x of {default : y}", "if(operate::=(local:2, local:0), local:1, none)"}, {"case x of {1 : y}", "if(operate::=(local:2, local:0), if(operate:===(local:2, integer:1), local:1, none), none)"},
		{"case x of {1 : y; default : z; 2 : x}", "if(operate::=(local:3, local:0), if(operate:===(local:3, integer:1), local:1, if(operate:===(local:3, integer:2), local:0, local:2)), none)"},
		{"case 0 of {1 : 2; 3 : 4; 5 : 6}", "if(operate::=(local:0, integer:0), if(operate:===(local:0, integer:1), integer:2, if(operate:===(local:0, integer:3), integer:4, if(operate:===(local:0, integer:5), integer:6, none))), none)"},
	} {
		checkBody(t, c[0], c[1])
	}
	if got := impl.FormatCore(loweredSource(t, "procedure main() x := 1 to 3 end").Routines[0].Body.Kids[0]); got != "operate::=(local:0, operate:to(integer:1, integer:3, integer:1))" {
		t.Errorf("the core of x := 1 to 3 is %s", got)
	}
}

// Slots are given to cases in preorder: selector, matches, bodies, default.
func TestSlotsOfCases(t *testing.T) {
	assign := func(slot int, selector string, rest string) string {
		return fmt.Sprintf("if(operate::=(local:%d, %s), %s, none)", slot, selector, rest)
	}
	match := func(slot int, value string, body string, rest string) string {
		return fmt.Sprintf("if(operate:===(local:%d, %s), %s, %s)", slot, value, body, rest)
	}
	empty := func(slot int, selector string) string { return assign(slot, selector, "none") }
	for _, c := range [][2]string{
		{"case case 1 of {} of {}", empty(0, empty(1, "integer:1"))},
		{"case 1 of {case 2 of {} : 3}", assign(0, "integer:1", match(0, empty(1, "integer:2"), "integer:3", "none"))},
		{"case 1 of {2 : case 3 of {}}", assign(0, "integer:1", match(0, "integer:2", empty(1, "integer:3"), "none"))},
		{"case 1 of {default : case 2 of {}}", assign(0, "integer:1", empty(1, "integer:2"))},
		{"[case 1 of {}, case 2 of {}]", "operate:[...](" + empty(0, "integer:1") + ", " + empty(1, "integer:2") + ")"},
		{"case case 1 of {} of {case 2 of {} : case 3 of {}; case 4 of {} : case 5 of {}; default : case 6 of {}}",
			assign(0, empty(1, "integer:1"), match(0, empty(2, "integer:2"), empty(3, "integer:3"), match(0, empty(4, "integer:4"), empty(5, "integer:5"), empty(6, "integer:6"))))},
		// The default comes last, wherever it is in the source.
		{"case 1 of {default : case 2 of {}; case 3 of {} : case 4 of {}}", assign(0, "integer:1", match(0, empty(1, "integer:3"), empty(2, "integer:4"), empty(3, "integer:2")))},
		{"case case case 1 of {} of {} of {}", empty(0, empty(1, empty(2, "integer:1")))},
		{"{case x of {y : case z of {}}; case y of {z : x}}", "block(" + assign(3, "local:0", match(3, "local:1", empty(4, "local:2"), "none")) + ", " + assign(5, "local:1", match(5, "local:2", "local:0", "none")) + ")"},
		{"{until case 1 of {} do case 2 of {}; defer x}", "block(while(if(" + empty(1, "integer:1") + ", none, null), " + empty(2, "integer:2") + "), operate:defer(local:0))"},
	} {
		checkBody(t, c[0], c[1])
	}
	p := loweredSource(t, "procedure p(a, b) local c; d; case 1 of {}; defer e; case 2 of {3 : case f of {}} end procedure main() case 1 of {} end procedure q() end procedure r(a) a end")
	for i, want := range [][]string{{"a", "b", "c", "d", "e", "f", "", "", ""}, {""}, {}, {"a"}} {
		if got := p.Routines[i]; !slices.Equal(got.Slots, want) || got.Params != []int{2, 0, 0, 1}[i] || got.Name != []string{"p", "main", "q", "r"}[i] {
			t.Errorf("routine %d is %q with %d parameters and the slots %q, want %q", i, got.Name, got.Params, got.Slots, want)
		}
	}
	if got := impl.FormatCore(p.Routines[0].Body); got != "block(local:3, "+empty(6, "integer:1")+", operate:defer(local:4), "+assign(7, "integer:2", match(7, "integer:3", empty(8, "local:5"), "none"))+")" {
		t.Errorf("the body is %s", got)
	}
}

// Every node, also one that is added, has the line of the node that is translated.
func TestLoweredLines(t *testing.T) {
	for _, c := range [][2]string{
		{"x\nto\ny", "operate:72@2(local:0@1, local:1@3, integer:1@2)"}, {"x(y\n)", "call@1(local:0@1, local:1@1)"}, {"x.\nhead", `operate:79@1(local:0@1, string:"head"@1)`}, {"(x\n).head", `operate:79@2(local:0@1, string:"head"@2)`}, {"defer\nx", "operate:81@1(local:0@1)"}, {"{\n\n}", "null@1"}, {"[\n&letters\n]", `operate:74@1(cset:"ABCDEFGHIJKLMNOPQRSTUVWXYZabcdefghijklmnopqrstuvwxyz"@2)`},
		{"if\nx then\ny", "if@1(local:0@2, local:1@3, none@1)"}, {"while\nx", "while@1(local:0@2, null@1)"}, {"while\nx do\ny", "while@1(local:0@2, local:1@3)"}, {"until\nx do\ny", "while@1(if@1(local:0@2, none@1, null@1), local:1@3)"}, {"until\nx", "while@1(if@1(local:0@2, none@1, null@1), null@1)"}, {"every\nx", "every@1(local:0@2, null@1)"},
		{"repeat\nx", "while@1(null@1, local:0@2)"}, {"not\nx", "if@1(local:0@2, none@1, null@1)"}, {"[\nreturn]", "operate:74@1(return@2(null@2))"}, {"suspend x\ndo y", "suspend@1(local:0@1, local:1@2)"}, {"[\nsuspend x]", "operate:74@1(suspend@2(local:0@2, null@2))"}, {"repeat\nbreak", "while@1(null@1, break@2(null@2))"}, {"repeat {\nnext}", "while@1(null@1, block@1(next@2))"},
		{"x\n&\ny", "operate:73@2(local:0@1, local:1@3)"}, {"x\n? y", "scan@2(local:0@1, local:1@2)"}, {"x \\\ny", "limit@1(local:0@1, local:1@2)"}, {"create\n|\n@\nx", "create@1(repeat@2(activate@3(local:0@4)))"},
		{"case\nx of {\n1 :\n2\n3 : 4\n5 :\n6}", "if@1(operate:60@1(local:1@1, local:0@2), if@1(operate:46@1(local:1@1, integer:1@3), integer:2@4, if@1(operate:46@1(local:1@1, integer:3@5), integer:4@5, if@1(operate:46@1(local:1@1, integer:5@6), integer:6@7, none@1))), none@1)"},
		{"[\ncase\nx of {default :\n2}]", "operate:74@1(if@2(operate:60@2(local:1@2, local:0@3), integer:2@4, none@2))"},
	} {
		p := loweredSource(t, "record r(head, tail) procedure main(); "+c[0]+"\nend")
		if want := coreOf("block@1("+c[1]+")", 999); !sameCores(p.Routines[0].Body, want) {
			t.Errorf("the body with %q is %+v, want %+v", c[0], p.Routines[0].Body, want)
		}
	}
	p := loweredSource(t, "\nrecord r(a,\nb) global g,\nh\nprocedure\nmain()\nend\n record s() procedure p(x,\n y) end")
	want := impl.Program{
		Routines: []impl.Routine{{Name: "main", Body: coreOf("null", 5)}, {Name: "p", Params: 2, Slots: []string{"x", "y"}, Body: coreOf("null", 8)}},
		Records:  []impl.RecordType{{Name: "r", Fields: []string{"a", "b"}, Line: 2}, {Name: "s", Line: 8}}, Globals: []string{"g", "h"},
	}
	if !samePrograms(p, want) {
		t.Errorf("the program is %s, want %s", programForm(p), programForm(want))
	}
}

// fieldsUnit is a unit of some statements in a loop. The fields of its records are all names of the samples.
func fieldsUnit(statements ...impl.Expr) impl.Unit {
	body := blockOf(lined(12, treeOf(impl.ExprRepeat, "", lined(13, blockOf(statements...)))))
	return impl.Unit{
		Records: []impl.RecordType{{Name: "r", Fields: []string{"x", "_", "abcdefghijkl"}, Line: 4}, {Name: "s", Fields: []string{"Z9", "left"}}}, Globals: []string{"Z9", "g"},
		Procedures: []impl.Procedure{{Name: "p", Params: []string{"q"}, Body: lined(9, blockOf(nameOf("x"))), Line: 8}, {Name: "main", Locals: []string{"a"}, Body: lined(11, body), Line: 11}},
	}
}

// Nodes of every kind, with every number of kids, all operators and keywords, and several lines, alone and in one another.
func TestLoweringOfEveryKind(t *testing.T) {
	for _, node := range shapes(24) {
		for _, line := range []int{0, 6, math.MaxInt} {
			p, ok := checkLowering(t, fieldsUnit(lined(line, node)))
			if !ok {
				t.Fatalf("%s is not lowered", form(node))
			}
			checkCore(t, p.Routines[1].Body)
		}
	}
	lowered := 0
	for _, outer := range shapes(3) {
		for i := range outer.Kids {
			for k, inner := range shapes(2) {
				// Of the operators, a part.
				isOperator := inner.Kind == impl.ExprUnary || inner.Kind == impl.ExprBinary
				if isOperator && (i+k+len(outer.Text))%5 > 0 {
					continue
				}
				e := copiedTree(outer)
				e.Kids[i] = lined(i+20, inner)
				if _, ok := checkLowering(t, fieldsUnit(e, nameOf("y"))); ok {
					lowered++
				}
			}
		}
	}
	if lowered < 8000 {
		t.Errorf("%d pairs of nodes are lowered", lowered)
	}
}

// The numbers of operators, which FormatCore does not show: unary and binary operators have the same texts.
func TestNumbersOfLoweredOperators(t *testing.T) {
	for op, text := range operatorTexts {
		source, kind, want := "x "+text+" y", impl.CoreOperate, op
		switch {
		case op < 12:
			source = text + "x"
		case op == 70 || op == 71 || op == 72 || op == 74 || op == 79 || op == 81:
			source = map[int]string{70: "x[y]", 71: "x[y : z]", 72: "x to y", 74: "[x]", 79: "x.head", 81: "defer x"}[op]
		}
		body := loweredSource(t, "record r(head) procedure main(); "+source+" end").Routines[0].Body
		if got := body.Kids[0]; got.Kind != kind || got.Op != want {
			t.Errorf("%s is a node of the kind %d with the operator %d, want operator %d", source, got.Kind, got.Op, want)
		}
	}
	for source, word := range map[string]string{"|x": "repeat", "@x": "activate", "x ? y": "scan", "x | y": "alternate", "x \\ y": "limit"} {
		body := loweredSource(t, "procedure main(); "+source+" end").Routines[0].Body
		if got := body.Kids[0]; got.Kind != kindOf(word) || got.Op != 0 {
			t.Errorf("%s is a node of the kind %d with the operator %d", source, got.Kind, got.Op)
		}
	}
}

// One name has each of its meanings in a procedure; w is the first local name that is met in it.
func TestLoweringOfNames(t *testing.T) {
	for _, c := range []struct{ before, head, name, want string }{
		{"", "()", "own", "local:1"}, {"", "(own)", "own", "local:0"}, {"", "(z, own)", "own", "local:1"}, {"", "() local z, own;", "own", "local:1"}, {"", "(z) local own;", "own", "local:1"}, {"", "(y, z) local x;", "own", "local:4"},
		{"record a() record own(x) global b", "()", "own", "constructor:1"}, {"global a, b, own record c()", "()", "own", "global:2"}, {"procedure a() end procedure own() end", "()", "own", "procedure:1"}, {"", "()", "used", "procedure:0"}, {"", "()", "main", "procedure:1"},
		{"record own()", "(own)", "own", "local:0"}, {"global own", "() local own;", "own", "local:0"}, {"procedure own() end", "(z, own)", "own", "local:1"}, {"", "(used)", "used", "local:0"}, {"record r(own)", "()", "own", "local:1"},
		{"", "()", "write", "function:0"}, {"", "()", "Fail", "function:54"}, {"", "(write)", "write", "local:0"}, {"", "() local z, Fail;", "Fail", "local:1"}, {"record r(write)", "()", "write", "function:0"}, {"procedure a(write) end", "()", "write", "function:0"},
	} {
		source := strings.ReplaceAll(c.before+" procedure used"+c.head+" w := NAME; create [NAME, w] end procedure main() end", "NAME", c.name)
		p := loweredSource(t, source)
		body := p.Routines[len(p.Routines)-2].Body
		first, second := body.Kids[0].Kids[1], body.Kids[1].Kids[0].Kids[0]
		if got := impl.FormatCore(first); got != c.want || !sameCores(first, second) {
			t.Errorf("%s in %q is %s and %s, want %s", c.name, source, got, impl.FormatCore(second), c.want)
		}
	}
}

// repaired is a tree in which what would be a fault is replaced; fields are those of the records, and variables the names that may be deferred.
func repaired(e impl.Expr, p place, fields []string, variables []string) impl.Expr {
	p.node = e
	needsLoop, leaves := e.Kind == impl.ExprBreak || e.Kind == impl.ExprNext, e.Kind == impl.ExprReturn || e.Kind == impl.ExprSuspend || e.Kind == impl.ExprFail
	wrongName := e.Kind == impl.ExprField && !slices.Contains(fields, e.Text) || e.Kind == impl.ExprDefer && !slices.Contains(variables, e.Text)
	if needsLoop && !p.isInLoop() || leaves && p.isInCreate() || wrongName {
		return lined(e.Line, treeOf(impl.ExprName, "x"))
	}
	for i, kid := range e.Kids {
		e.Kids[i] = repaired(kid, place{steps: append(slices.Clone(p.steps), step{e, i})}, fields, variables)
	}
	return e
}

// fineUnit is a random unit that mostly has no fault.
func (m *unitMaker) fineUnit() impl.Unit {
	u := m.unit()
	for m.careless {
		u = m.unit()
	}
	var fields []string
	for _, r := range u.Records {
		fields = append(fields, r.Fields...)
	}
	for i := range u.Procedures {
		p := &u.Procedures[i]
		p.Body = repaired(p.Body, place{}, fields, slices.Concat(u.Globals, p.Params, p.Locals))
	}
	if !slices.Contains(procedureNames(u), "main") {
		u.Procedures[0].Name = "main"
	}
	u.Procedures[slices.Index(procedureNames(u), "main")].Params = nil
	return u
}

func TestLoweringOfRandomUnits(t *testing.T) {
	m := unitMaker{random: rand.New(rand.NewPCG(10, 1))}
	lowered, refused, printed := 0, 0, 0
	for i := range 6000 {
		u := m.fineUnit()
		switch i % 4 {
		case 0:
			u = m.unit()
		case 1:
			spoil(m.random, &u.Procedures[m.random.IntN(len(u.Procedures))].Body)
		}
		p, ok := checkLowering(t, u)
		if !ok {
			refused++
			continue
		}
		lowered++
		for _, r := range p.Routines {
			checkCore(t, r.Body)
		}
		if checkPrintedLowering(t, u) {
			printed++
		}
	}
	if lowered < 2500 || refused < 1200 || printed < 2000 {
		t.Errorf("%d units are lowered and %d are not, %d of them are printed", lowered, refused, printed)
	}
}

func TestLoweringOfRandomSources(t *testing.T) {
	s := speaker{random: rand.New(rand.NewPCG(10, 2))}
	lowered, refused := 0, 0
	for i := range 4000 {
		s.words = nil
		for range s.random.IntN(3) {
			s.sayOne(unitForms, 0)
		}
		s.say("procedure main ( ) #  ; end", i%4)
		// Names of all sorts.
		for k, word := range s.words {
			if k > 0 && listed("x y z", word) && !listed("record procedure global ( ,", s.words[k-1]) && s.random.IntN(3) == 0 {
				s.words[k] = []string{"write", "main", "Fail"}[s.random.IntN(3)]
			}
		}
		u, line := parsedUnit(t, s.source())
		if line != 0 {
			continue
		}
		if _, ok := checkLowering(t, u); ok {
			lowered++
		} else {
			refused++
		}
		checkPrintedLowering(t, u)
	}
	if lowered < 800 || refused < 800 {
		t.Errorf("%d sources are lowered and %d are not", lowered, refused)
	}
}

// checkNotLowered expects false and the zero Program.
func checkNotLowered(t *testing.T, u impl.Unit) {
	t.Helper()
	if p, ok := impl.LowerUnit(u); ok || !samePrograms(p, impl.Program{}) {
		t.Fatalf("LowerUnit(%.500s) = %.500s, %v", unitForm(u), programForm(p), ok)
	}
}

// Units with each of the faults are not lowered.
func TestUnitsWithFaultsAreNotLowered(t *testing.T) {
	if _, ok := checkLowering(t, orderedUnit()); !ok {
		t.Fatal("the unit without faults is not lowered")
	}
	codes := map[int]int{}
	for _, edit := range orderedEdits() {
		u := orderedUnit()
		edit.change(&u)
		checkNotLowered(t, u)
		checkLowering(t, u)
		codes[edit.code]++
	}
	for code := invalid; code <= tooManySlots; code++ {
		if codes[code] == 0 {
			t.Errorf("no unit has the code %d", code)
		}
	}
	for _, source := range []string{"", "global g", "procedure f() end", "procedure main(a) end", "procedure main() break end", "procedure main() create fail end", "procedure main() x.y end", "procedure main() defer main end", "record a(b, b) procedure main() end", "procedure main() local a, a; end", "procedure main() end procedure main(a) end"} {
		u, line := parsedUnit(t, source)
		if line != 0 {
			t.Fatalf("%q has an error in line %d", source, line)
		}
		checkNotLowered(t, u)
	}
	good := mainWith()
	for _, change := range []func(u *impl.Unit){
		func(u *impl.Unit) { u.Procedures = nil }, func(u *impl.Unit) { u.Procedures[0].Body.Kind = impl.ExprList }, func(u *impl.Unit) { u.Procedures[0].Line = -1 }, func(u *impl.Unit) { u.Globals = []string{"if"} }, func(u *impl.Unit) { u.Globals = numberedNames(13) },
		func(u *impl.Unit) { u.Records[0].Line = -1 }, func(u *impl.Unit) { u.Procedures[0].Body = impl.Expr{} }, func(u *impl.Unit) { u.Procedures[0].Body.Kids = []impl.Expr{{Kind: 30}} }, func(u *impl.Unit) { u.Procedures[0].Body.Kids = []impl.Expr{{Kind: impl.ExprCase}} },
	} {
		u := copiedUnit(good)
		change(&u)
		checkNotLowered(t, u)
	}
	if _, ok := checkLowering(t, good); !ok {
		t.Error("the empty program is not lowered")
	}
}

// withMeanings is a unit in which until, repeat and not are replaced by what they mean.
func withMeanings(u impl.Unit) impl.Unit {
	u = copiedUnit(u)
	for i := range u.Procedures {
		changeNodes(&u.Procedures[i].Body, func(node *impl.Expr) {
			keyword := func(text string) impl.Expr { return lined(node.Line, treeOf(impl.ExprKeyword, text)) }
			not := func(e impl.Expr) impl.Expr {
				return lined(node.Line, treeOf(impl.ExprIf, "", e, keyword("fail"), keyword("null")))
			}
			switch node.Kind {
			case impl.ExprUntil:
				node.Kind, node.Kids[0] = impl.ExprWhile, not(node.Kids[0])
			case impl.ExprRepeat:
				node.Kind, node.Kids = impl.ExprWhile, []impl.Expr{keyword("null"), node.Kids[0]}
			case impl.ExprNot:
				*node = not(node.Kids[0])
			}
		})
	}
	return u
}

// Until is while with the opposite condition, and repeat a loop without a condition (P44).
func TestLoopsMeanWhatTheyAbbreviate(t *testing.T) {
	m := unitMaker{random: rand.New(rand.NewPCG(10, 3))}
	compared, different := 0, 0
	for range 2000 {
		u := m.fineUnit()
		other := withMeanings(u)
		got, ok := impl.LowerUnit(u)
		if !ok || !impl.IsValidUnit(other) {
			continue
		}
		want, wantOK := impl.LowerUnit(other)
		if !wantOK || !samePrograms(got, want) {
			t.Fatalf("LowerUnit(%.1000s) = %.1000s, and with the meanings of until, repeat and not it is %.1000s, %v", unitForm(u), programForm(got), programForm(want), wantOK)
		}
		compared++
		if !sameUnits(u, other) {
			different++
		}
	}
	if compared < 1000 || different < 500 {
		t.Errorf("%d units were compared, %d of them with loops", compared, different)
	}
	for _, pair := range [][2]string{
		{"until x do y", "while not x do y"}, {"until x", "while not x"}, {"repeat x", "while &null do x"}, {"not x", "if x then &fail else &null"}, {"until not x do y", "while not not x do y"}, {"repeat {}", "while &null"},
		{"if x then y", "if x then y else &fail"}, {"x to y", "x to y by 1"}, {"while x", "while x do &null"}, {"every x", "every x do &null"}, {"suspend x", "suspend x do &null"}, {"suspend", "suspend &null"}, {"return", "return &null"}, {"repeat break", "repeat break &null"}, {"(x, y)", "x & y"}, {"{}", "&null"},
		// The slot of a case is one of a local name but for its name.
		{"[x, y]; case x of {1 : y; 2 : x; default : [y]}", "[x, y]; if z := x then (if z === 1 then y else if z === 2 then x else [y])"}, {"[x, y]; case x of {y : x}", "[x, y]; if z := x then (if z === y then x)"}, {"x; case x of {}", "x; if z := x then &fail"},
	} {
		bodies := [2]impl.Core{}
		for i, source := range pair {
			p := linelessProgram(loweredSource(t, "procedure main() "+source+" end"))
			bodies[i] = p.Routines[0].Body
		}
		if !sameCores(bodies[0], bodies[1]) {
			t.Errorf("%q gives %s and %q gives %s", pair[0], impl.FormatCore(bodies[0]), pair[1], impl.FormatCore(bodies[1]))
		}
	}
}

// filledBody is a block with some nodes in all, of which as many as possible are copies of a chain; the others are names.
func filledBody(link func(e impl.Expr) impl.Expr, nodes int) impl.Expr {
	body, rest := blockOf(), nodes-1
	for kid := 0; kid < 24 && rest > 0; kid++ {
		e := nameOf("x")
		size := 1
		for size+1 <= rest && size < 38 {
			e, size = link(e), size+1
		}
		body.Kids = append(body.Kids, e)
		rest -= size
	}
	return body
}

// The units that give the most nodes and the greatest depths.
func TestLoweringOfLargeUnits(t *testing.T) {
	unitOf := func(body impl.Expr) impl.Unit {
		u := impl.Unit{}
		for i := range 12 {
			u.Procedures = append(u.Procedures, impl.Procedure{Name: fmt.Sprintf("p%d", i), Body: copiedTree(body)})
		}
		u.Procedures[11].Name = "main"
		return u
	}
	for _, kind := range []int{impl.ExprUntil, impl.ExprWhile, impl.ExprRepeat, impl.ExprNot, impl.ExprUnary, impl.ExprReturn} {
		rule := ruleOf(kind)
		body := filledBody(func(e impl.Expr) impl.Expr { return treeOf(kind, rule.sample, e) }, maxNodes)
		if countOf(body) != maxNodes {
			t.Fatalf("the body has %d nodes", countOf(body))
		}
		p, ok := impl.LowerUnit(unitOf(body))
		total := 0
		for _, r := range p.Routines {
			total += impl.CountCore(r.Body)
		}
		added := map[int]int{impl.ExprUntil: 4, impl.ExprWhile: 1, impl.ExprRepeat: 1, impl.ExprNot: 2}[kind]
		links := maxNodes - 1 - len(body.Kids)
		if want := 12 * (maxNodes + added*links); !ok || total != want || !impl.IsValidProgram(p) {
			t.Errorf("the unit of nodes of the kind %d gives %d nodes, want %d, %v", kind, total, want, ok)
		}
	}
	// Cases with all branches, each as the same kid of the next one: so many nodes stand between the two. The last one has the depth 9 by its last match.
	for kid, depth := range map[int]int{0: 2, 1: 3, 2: 2, 11: 8, 12: 7, 13: 7} {
		e := nameOf("x")
		for range 23 {
			kids := slices.Repeat([]impl.Expr{nameOf("x")}, 14)
			kids[kid] = e
			e = caseOf(1, kids...)
		}
		p, ok := checkLowering(t, mainWith(e))
		if want := 1 + 22*depth + 9; !ok || coreHeight(p.Routines[0].Body) != want {
			t.Errorf("cases as kid %d of cases have the depth %d, want %d, %v", kid, coreHeight(p.Routines[0].Body), want, ok)
		}
	}
	full := fullUnit()
	for i := range full.Records {
		full.Records[i].Name = fmt.Sprintf("r%d", i)
	}
	for i := range full.Globals {
		full.Globals[i] = fmt.Sprintf("g%d", i)
	}
	for i := range full.Procedures {
		full.Procedures[i].Name, full.Procedures[i].Locals = fmt.Sprintf("p%d", i), nil
	}
	full.Procedures[5].Name, full.Procedures[5].Params = "main", nil
	if p, ok := checkLowering(t, full); !ok || p.Main != 5 || len(p.Routines) != 12 {
		t.Errorf("the unit with the most declarations gives %.500s, %v", programForm(p), ok)
	}
	if p, ok := checkLowering(t, slotsUnit(6, 8, 4, 6)); !ok || len(p.Routines[0].Slots) != maxSlots {
		t.Errorf("the unit with the most slots gives %.500s, %v", programForm(p), ok)
	}
}

func TestFormsOfCores(t *testing.T) {
	for _, c := range []struct {
		core impl.Core
		want string
	}{
		{impl.Core{}, "?"}, {impl.Core{Kind: 29}, "?"}, {impl.Core{Kind: -1}, "?"}, {impl.Core{Kind: math.MinInt}, "?"}, {impl.Core{Kind: math.MaxInt}, "?"}, {impl.Core{Kind: 1<<32 + 1}, "?"}, {impl.Core{Kind: 256 + 4}, "?"},
		{impl.Core{Kind: 30, Op: 1, Number: 2, Text: "a", Line: 3, Kids: []impl.Core{{}, {Kind: 4}}}, "?(?, null)"}, {impl.Core{Kind: 1}, "integer:0"}, {impl.Core{Kind: 1, Number: math.MinInt, Kids: []impl.Core{{Kind: 28}}}, "integer:-9223372036854775808(none)"},
		{impl.Core{Kind: 2, Text: "a\"\\\n\t\x00\xff'", Number: 5}, `string:"a\"\\\n\t\x00\xff'"`}, {impl.Core{Kind: 3, Text: "ba", Op: 7}, `cset:"ba"`}, {impl.Core{Kind: 2}, `string:""`}, {impl.Core{Kind: 3, Kids: []impl.Core{{Kind: 21}}}, `cset:""(next)`}, {impl.Core{Kind: 4, Text: "x", Number: 3}, "null"},
		{impl.Core{Kind: 11}, "operate:"}, {impl.Core{Kind: 11, Op: 80, Kids: []impl.Core{{Kind: 4}}}, "operate:(null)"}, {impl.Core{Kind: 11, Op: -1}, "operate:"}, {impl.Core{Kind: 11, Op: 73}, "operate:&"}, {impl.Core{Kind: 11, Op: 254, Number: 9, Text: "x"}, "operate:**:="}, {impl.Core{Kind: 11, Op: 74, Kids: []impl.Core{}}, "operate:[...]"},
		{impl.Core{Kind: 12, Op: 1, Text: "x"}, "call"}, {impl.Core{Kind: 16, Kids: []impl.Core{{Kind: 20, Kids: []impl.Core{{Kind: 21}}}, {Kind: 24}}}, "block(break(next), fail)"},
	} {
		if got := impl.FormatCore(c.core); got != c.want {
			t.Errorf("FormatCore(%+v) = %q, want %q", c.core, got, c.want)
		}
		checkCore(t, c.core)
	}
	numbered := wordsOf("integer local global procedure function constructor keyword")
	for kind := -3; kind <= 33; kind++ {
		for kids := range 4 {
			node := impl.Core{Kind: kind, Op: 20, Number: -7, Line: -2, Text: "b\xffa", Kids: slices.Repeat([]impl.Core{{Kind: kindOf("none")}}, kids)}
			want := coreWord(kind)
			switch {
			case slices.Contains(numbered, want):
				want += ":-7"
			case want == "string" || want == "cset":
				want += `:"b\xffa"`
			case want == "operate":
				want += ":+"
			}
			want += []string{"", "(none)", "(none, none)", "(none, none, none)"}[kids]
			if got := impl.FormatCore(node); got != want || impl.CountCore(node) != 1+kids {
				t.Errorf("FormatCore(%+v) = %q, want %q; CountCore is %d", node, got, want, impl.CountCore(node))
			}
			checkCore(t, impl.Core{Kind: 31 - kind, Kids: []impl.Core{node, {Kind: kind}, node}})
		}
	}
	for op := range operatorTexts {
		checkCore(t, impl.Core{Kind: kindOf("operate"), Op: op, Kids: []impl.Core{{Kind: 1, Number: op}}})
	}
}

// strictProgram is a program with a different number of declarations of each sort. It is valid if the node is, in a loop of a routine with three slots.
func strictProgram(node impl.Core) impl.Program {
	return impl.Program{
		Routines: []impl.Routine{
			{Name: "p", Params: 2, Slots: []string{"a", "b", "c", "", "d", ""}, Body: core("local:5")}, {Name: "write", Params: 4, Slots: []string{"", "a", "a", ""}, Body: core("null")},
			{Name: "main", Body: core("call(procedure:4, function:54)")}, {Name: "p", Params: 1, Slots: []string{"x", "", "y"}, Body: coreOf("while(null, $0)", 0, node)}, {Name: "q", Params: 1, Slots: []string{"z"}, Body: core("local:0")},
		},
		Records: []impl.RecordType{{Name: "r", Fields: []string{"a", "b"}, Line: 5}, {Name: "r"}}, Globals: []string{"g", "h", "g", "write"}, Main: 2,
	}
}

// checkNode expects whether the strict program with a node is valid, with the node in several places.
func checkNode(t *testing.T, node impl.Core, valid bool) {
	t.Helper()
	for _, place := range []string{"$0", "block(null, $0, none)", "operate:73(null, none, $0)", "if($0, null, break(null))", "if(null, if(none, $0, null), none)", "call(local:2, global:3, call($0))", "scan(operate:21($0, operate:3(null)), fail)", "suspend(return(repeat($0)), next)", "alternate(activate(limit($0, null)), null)", "every(null, suspend(null, $0))"} {
		p := strictProgram(core("null"))
		p.Routines[3].Body = coreOf("every(null, $0)", 7, coreOf(place, 8, node))
		checkProgram(t, p, valid)
	}
	p := strictProgram(node)
	checkProgram(t, p, valid)
	if followProgramRules(p) != valid {
		t.Fatalf("by the rules, validity of %.500s is not %v", programForm(p), valid)
	}
}

// coreNode is a node of a kind, with an operator if it is a CoreOperate, and with some kids; it is valid in strict programs if it may have as many.
func coreNode(kind int, op int, kids int) impl.Core {
	node := impl.Core{Kind: kind, Op: op, Line: 3}
	leaves := []impl.Core{core("local:1"), core(`string:"x"`), core("null"), core("integer:-5"), core("operate:74")}
	for i := range kids {
		node.Kids = append(node.Kids, leaves[i%len(leaves)])
	}
	if coreWord(kind) == "keyword" {
		node.Number = 1
	}
	return node
}

// coreNodes are nodes of all kinds and with all operators, with the most kids.
func coreNodes() []impl.Core {
	var nodes []impl.Core
	for kind := 1; kind <= len(coreWords); kind++ {
		ops := map[int]string{0: ""}
		if coreWord(kind) == "operate" {
			ops = operatorTexts
		}
		for op := range ops {
			nodes = append(nodes, coreNode(kind, op, coreRuleOf(kind, op).most))
		}
	}
	return nodes
}

func TestKidsOfValidCores(t *testing.T) {
	for _, node := range coreNodes() {
		rule := coreRuleOf(node.Kind, node.Op)
		for _, kids := range []int{0, 1, 2, 3, 4, 7, 8, 9, 10, 11, 23, 24, 25, 26, 100, 256 + rule.most} {
			checkNode(t, coreNode(node.Kind, node.Op, kids), rule.fewest <= kids && kids <= rule.most)
		}
	}
}

// Number, Op, Text and Line of each kind: within the limits, at them, and beyond them.
func TestFieldsOfValidCores(t *testing.T) {
	numbers := append(extremeInts(), -maxInteger-1, -maxInteger, -maxInteger+1, maxInteger-1, maxInteger, maxInteger+1, 53, 54, 55, 1<<32+2)
	for number := -9; number <= 9; number++ {
		numbers = append(numbers, number)
	}
	limits := map[string][2]int{"integer": {-maxInteger, maxInteger}, "local": {0, 2}, "global": {0, 3}, "procedure": {0, 4}, "function": {0, 54}, "constructor": {0, 1}, "keyword": {1, 2}}
	texts := []string{"", "x", "ab", "ba", "aa", " ", "a\x7f", "a\x80", "\xff", "if", "a b", everyByte()[:128], everyByte()[:129], strings.Repeat("x", 120), strings.Repeat("x", 121), strings.Repeat("\xff", 120), strings.Repeat("\u00e9", 61)}
	for _, good := range coreNodes() {
		word := coreWord(good.Kind)
		limit := limits[word]
		for _, number := range numbers {
			node := good
			node.Number = number
			checkNode(t, node, limit[0] <= number && number <= limit[1])
		}
		for _, text := range texts {
			node := good
			node.Text = text
			checkNode(t, node, text == "" || word == "string" && len(text) <= 120 || word == "cset" && isAscending(text))
		}
		for _, line := range []int{0, 1, maxSource + 1, math.MaxInt, -1, -2, math.MinInt} {
			node := good
			node.Line = line
			checkNode(t, node, line >= 0)
		}
		for _, op := range append(extremeInts(), -1, 0, 1, 11, 12, 20, 46, 71, 72, 73, 74, 77, 80, 82, 219, 220, 230, 254, 255, 256+21, 1<<32+21) {
			node := good
			node.Op = op
			arity := arityByRule(op)
			checkNode(t, node, op == 0 && word != "operate" || word == "operate" && arity[0] <= len(good.Kids) && len(good.Kids) <= arity[1])
		}
		for _, kind := range []int{0, 29, 30, -1, -good.Kind, 256 + good.Kind, 1<<32 + good.Kind, math.MinInt, math.MaxInt} {
			node := good
			node.Kind = kind
			checkNode(t, node, false)
			node.Kids, node.Op = nil, 0
			checkNode(t, node, false)
		}
	}
	checkNode(t, core("operate"), false)
	checkNode(t, core("operate(null)"), false)
	checkNode(t, core("operate(null, null)"), false)
}

// A field needs its name, and a deferred variable must be one.
func TestOperandsOfFieldsAndDefers(t *testing.T) {
	isName := ruleOf(impl.ExprName).text
	for _, text := range []string{"x", "_", "a1", "abcdefghijkl", "abcdefghijklm", "", "1", "1a", "a b", " a", "if", "end", "write", "null", "\xff", "a\x00"} {
		node := coreOf("operate:79(null, $0)", 0, impl.Core{Kind: kindOf("string"), Text: text})
		checkNode(t, node, isName(text))
	}
	for _, other := range coreNodes() {
		word := coreWord(other.Kind)
		checkNode(t, coreOf("operate:81($0)", 0, other), word == "local" || word == "global")
		// The first operand may be anything; a string without a text, or another node with one, is no name.
		checkNode(t, coreOf(`operate:79($0, string:"x")`, 0, other), true)
		checkNode(t, coreOf("operate:79(null, $0)", 0, other), false)
		if word != "string" {
			other.Text = "x"
			checkNode(t, coreOf("operate:79(null, $0)", 0, other), false)
		}
	}
	for _, form := range []string{"operate:81(local:2)", "operate:81(global:3)", `operate:79(none, string:"a")`} {
		checkNode(t, core(form), true)
	}
	for _, form := range []string{"operate:81(local:3)", "operate:81(local:-1)", "operate:81(global:4)", "operate:81(global:-1)", "operate:81(local:0, local:0)", "operate:81", `operate:79(string:"a")`, `operate:79(string:"a", null)`, `operate:79(null, string:"a", null)`, `operate:79(null, cset:"a")`, `operate:79(null, block(string:"a"))`, "operate:81(block(local:0))", `operate:79(null, string:"a"(null))`, "operate:79"} {
		checkNode(t, core(form), false)
	}
}

// coreSteps are the ways to put a tree into a core node of each kind: as each of its kids, of which there are at most three.
func coreSteps(words string) []func(c impl.Core) impl.Core {
	var steps []func(c impl.Core) impl.Core
	for _, word := range wordsOf(words) {
		kind, op := kindOf(word), 0
		if word == "operate" {
			op = 73
		}
		for kid := range min(3, coreRuleOf(kind, op).most) {
			steps = append(steps, func(c impl.Core) impl.Core {
				node := impl.Core{Kind: kind, Op: op, Kids: slices.Repeat([]impl.Core{core("null")}, min(3, coreRuleOf(kind, op).most))}
				node.Kids[kid] = c
				return node
			})
		}
	}
	return steps
}

// Every kind of node in each kid of every kind of node has break, next, return, suspend and fail; and the loops and what parts from them up to five deep.
func TestContextsOfCores(t *testing.T) {
	leaves := []impl.Core{core("break(null)"), core("next"), core("return(null)"), core("fail"), core("suspend(null, null)"), core("none")}
	check := func(body impl.Core) bool {
		p := strictProgram(core("null"))
		p.Routines[3].Body = body
		return checkProgramByRule(t, p)
	}
	steps := coreSteps(strings.Join(coreWords, " "))
	if len(steps) != 5*1+6*2+4*3 {
		t.Errorf("there are %d kids", len(steps))
	}
	for _, leaf := range leaves {
		check(leaf)
		for _, inner := range steps {
			check(inner(leaf))
			for _, outer := range steps {
				check(outer(inner(leaf)))
			}
		}
	}
	valid, invalid := 0, 0
	loops := coreSteps("while every create break suspend")
	for _, leaf := range leaves {
		trees := []impl.Core{leaf}
		for level := range 5 {
			var next []impl.Core
			for i, step := range loops {
				for j, c := range trees {
					// In the last levels, a part of the trees.
					if level < 2 || (i+3*j)%4 == 0 {
						next = append(next, step(c))
					}
				}
			}
			trees = next
			for _, c := range trees {
				if check(c) {
					valid++
				} else {
					invalid++
				}
			}
		}
	}
	if valid < 1000 || invalid < 1000 {
		t.Errorf("%d trees are valid and %d are not", valid, invalid)
	}
	for form, want := range map[string]bool{
		"while(null, break(null))": true, "while(null, next)": true, "every(null, break(null))": true, "every(null, next)": true, "while(next, null)": false, "every(break(null), null)": false, "break(null)": false, "next": false, "repeat(next)": false, "while(null, create(next))": false, "while(null, break(next))": false, "while(null, break(break(null)))": false,
		"while(null, while(next, null))": false, "while(null, every(break(null), null))": false, "while(while(null, next), null)": true, "create(while(null, next))": true, "while(null, break(every(null, next)))": true, "while(null, if(next, block(null, next), operate:1(break(null))))": true,
		"create(return(null))": false, "create(fail)": false, "create(suspend(null, null))": false, "return(create(null))": true, "create(while(null, fail))": false, "while(null, suspend(next, break(null)))": true, "suspend(create(next), null)": false, "create(create(fail))": false, "block(create(null), fail)": true, "scan(fail, return(suspend(null, fail)))": true,
	} {
		if got := check(core(form)); got != want {
			t.Errorf("IsValidProgram with the body %s is %v", form, got)
		}
	}
}

// fullProgram is a valid program with the most of everything but nodes.
func fullProgram() impl.Program {
	p := impl.Program{Globals: numberedNames(12), Main: 11}
	for range 8 {
		p.Records = append(p.Records, impl.RecordType{Name: "r", Fields: numberedNames(6)})
	}
	for range 12 {
		p.Routines = append(p.Routines, impl.Routine{Name: "p", Params: 24, Slots: numberedNames(24), Body: core("operate:74(local:23, global:11, procedure:11, constructor:7, function:54)")})
	}
	p.Routines[11].Params = 0
	return p
}

// Each declaration of a program is made wrong in each way, alone.
func TestDeclarationsOfValidPrograms(t *testing.T) {
	type change = func(p *impl.Program)
	for _, change := range []change{
		func(p *impl.Program) {}, func(p *impl.Program) { p.Main = 1; p.Routines[1].Params = 0 }, func(p *impl.Program) { p.Routines[0].Params = 6 }, func(p *impl.Program) { p.Routines[0].Params = 0 }, func(p *impl.Program) { p.Routines[0].Slots = slices.Repeat([]string{""}, 24) },
		func(p *impl.Program) { p.Routines[1].Slots, p.Routines[1].Params = nil, 0 }, func(p *impl.Program) { p.Records[0].Fields = []string{"a"} }, func(p *impl.Program) { p.Records[1].Line = math.MaxInt }, func(p *impl.Program) { p.Globals[1] = "main" }, func(p *impl.Program) { p.Records[1].Fields = numberedNames(6) },
		func(p *impl.Program) { p.Records[0].Name = "main" }, func(p *impl.Program) { p.Globals[0] = "abcdefghijkl" },
	} {
		p := strictProgram(core("null"))
		change(&p)
		checkProgram(t, p, true)
		checkProgram(t, p, followProgramRules(p))
	}
	wrong := []change{
		func(p *impl.Program) { p.Routines = nil }, func(p *impl.Program) { p.Main = 5 }, func(p *impl.Program) { p.Main = -1 }, func(p *impl.Program) { p.Main = math.MinInt }, func(p *impl.Program) { p.Main = math.MaxInt }, func(p *impl.Program) { p.Main = 1<<32 + 2 }, func(p *impl.Program) { p.Main = 1 }, func(p *impl.Program) { p.Main = 0 },
		func(p *impl.Program) { p.Routines[2].Params = 1 }, func(p *impl.Program) { p.Routines[2].Slots, p.Routines[2].Params = []string{"a"}, 1 }, func(p *impl.Program) { p.Routines[2].Params = -1 }, func(p *impl.Program) { p.Routines[4].Params = 2 }, func(p *impl.Program) { p.Routines[0].Params = -1 }, func(p *impl.Program) { p.Routines[0].Params = 7 },
		func(p *impl.Program) { p.Routines[0].Params = math.MaxInt }, func(p *impl.Program) { p.Routines[0].Params = math.MinInt }, func(p *impl.Program) { p.Routines[0].Slots = numberedNames(25) }, func(p *impl.Program) { p.Routines[4].Slots = slices.Repeat([]string{""}, 25) }, func(p *impl.Program) { p.Routines[0].Slots = p.Routines[0].Slots[:5] },
		func(p *impl.Program) { p.Records[0].Line = -1 }, func(p *impl.Program) { p.Records[1].Line = math.MinInt }, func(p *impl.Program) { p.Records[0].Fields = []string{"a", "a"} }, func(p *impl.Program) { p.Records[1].Fields = []string{"a", "b", "c", "d", "e", "a"} }, func(p *impl.Program) { p.Records[1].Fields = numberedNames(7) },
		func(p *impl.Program) { p.Globals = p.Globals[:3]; p.Routines[4].Body = core("global:3") }, func(p *impl.Program) { p.Records = p.Records[:1]; p.Routines[4].Body = core("constructor:1") }, func(p *impl.Program) { p.Routines[4].Body = core("local:1") }, func(p *impl.Program) { p.Routines[2].Body = core("local:0") }, func(p *impl.Program) { p.Routines[0].Body = core("procedure:5") }, func(p *impl.Program) { p.Routines[1].Body = impl.Core{} },
	}
	for i := range 5 {
		wrong = append(wrong, func(p *impl.Program) { p.Routines[i].Body = core("next") })
	}
	for _, name := range []string{"", "1", "a b", "if", "procedure", "abcdefghijklm", "\xff", "a\x00", "&null"} {
		for i := range 5 {
			wrong = append(wrong, func(p *impl.Program) { p.Routines[i].Name = name })
		}
		wrong = append(wrong, func(p *impl.Program) { p.Records[0].Name = name }, func(p *impl.Program) { p.Records[1].Name = name }, func(p *impl.Program) { p.Records[0].Fields[0] = name }, func(p *impl.Program) { p.Records[0].Fields[1] = name }, func(p *impl.Program) { p.Globals[0] = name }, func(p *impl.Program) { p.Globals[3] = name })
		if name != "" {
			wrong = append(wrong, func(p *impl.Program) { p.Routines[0].Slots[0] = name }, func(p *impl.Program) { p.Routines[0].Slots[5] = name }, func(p *impl.Program) { p.Routines[4].Slots[0] = name }, func(p *impl.Program) { p.Routines[1].Slots[1] = name })
		}
	}
	for i, change := range wrong {
		p := strictProgram(core("null"))
		change(&p)
		checkProgram(t, p, false)
		if followProgramRules(p) {
			t.Errorf("change %d gives a program that follows the rules", i)
		}
	}
	checkProgram(t, impl.Program{}, false)
	checkProgram(t, impl.Program{Routines: []impl.Routine{{}}}, false)
	checkProgram(t, impl.Program{Routines: []impl.Routine{{Name: "main"}}}, false)
	checkProgram(t, impl.Program{Routines: []impl.Routine{{Name: "p", Body: core("null")}}}, true)
	checkProgram(t, fullProgram(), true)
	for _, change := range []change{
		func(p *impl.Program) { p.Routines = append(p.Routines, p.Routines[0]) }, func(p *impl.Program) { p.Records = append(p.Records, p.Records[0]) }, func(p *impl.Program) { p.Globals = append(p.Globals, "g") }, func(p *impl.Program) { p.Routines[3].Slots = append(p.Routines[3].Slots, "s") }, func(p *impl.Program) { p.Records[7].Fields = append(p.Records[7].Fields, "f") },
		func(p *impl.Program) { p.Routines[3].Params = 25 }, func(p *impl.Program) { p.Routines[0].Body = core("local:24") }, func(p *impl.Program) { p.Routines[0].Body = core("global:12") }, func(p *impl.Program) { p.Routines[0].Body = core("procedure:12") }, func(p *impl.Program) { p.Routines[0].Body = core("constructor:8") }, func(p *impl.Program) { p.Routines[0].Body = core("function:55") },
	} {
		p := fullProgram()
		change(&p)
		checkProgram(t, p, false)
		if followProgramRules(p) {
			t.Error("a program beyond a limit follows the rules")
		}
	}
}

// wideCore is a core tree with some nodes, of the least depth.
func wideCore(nodes int) impl.Core {
	if nodes == 1 {
		return core("none")
	}
	node := core("block")
	rest := nodes - 1
	for kid := range 24 {
		size := (rest + 23 - kid) / (24 - kid)
		if size > 0 {
			node.Kids = append(node.Kids, wideCore(size))
		}
		rest -= size
	}
	return node
}

// deepCore is a chain of nodes of a kind with some depth; each is the kid of the next one with an index.
func deepCore(step func(c impl.Core) impl.Core, depth int) impl.Core {
	c := core("none")
	for range depth - 1 {
		c = step(c)
	}
	return c
}

func TestLimitsOfValidPrograms(t *testing.T) {
	one := func(body impl.Core) impl.Program {
		return impl.Program{Routines: []impl.Routine{{Name: "main", Body: body}}}
	}
	for nodes := 39998; nodes <= 40003; nodes++ {
		body := wideCore(nodes)
		if coreTotal(body) != nodes || impl.CountCore(body) != nodes {
			t.Fatalf("the body of %d nodes has %d and %d", nodes, coreTotal(body), impl.CountCore(body))
		}
		checkProgram(t, one(body), nodes <= 40000)
		// The same nodes in several routines.
		for _, sizes := range [][]int{{1, 39999}, {39999, 1}, {20000, 20000}, {3000, 4000, 5000, 6000, 7000, 8000, 1000, 1000, 1000, 1000, 1000, 2000}} {
			p := impl.Program{}
			for i, size := range sizes {
				if i == len(sizes)/2 {
					size += nodes - 40000
				}
				p.Routines = append(p.Routines, impl.Routine{Name: "p", Body: wideCore(max(1, size))})
			}
			total := 0
			for _, r := range p.Routines {
				total += coreTotal(r.Body)
			}
			checkProgram(t, p, total <= 40000)
		}
	}
	for i, step := range coreSteps("operate call alternate repeat limit block if while every scan return suspend create activate") {
		for _, depth := range []int{1, 2, 399, 400, 401, 402, 656} {
			body := deepCore(step, depth)
			if coreHeight(body) != depth {
				t.Fatalf("the body of the depth %d has %d", depth, coreHeight(body))
			}
			p := one(body)
			checkProgram(t, p, depth <= 400)
			p.Routines = append(p.Routines, impl.Routine{Name: "p", Body: body}, impl.Routine{Name: "q", Body: deepCore(step, 5)})
			p.Routines[0].Body = deepCore(step, i%7+1)
			checkProgram(t, p, depth <= 400)
		}
	}
	both := deepCore(coreSteps("if")[2], 400)
	both.Kids[0] = wideCore(40000 - impl.CountCore(both) + 1)
	checkProgram(t, one(both), true)
	both.Kids[0] = wideCore(coreTotal(both.Kids[0]) + 1)
	checkProgram(t, one(both), false)
}

// spoilCore makes one random change to a random node, which may leave the program valid.
func spoilCore(random *rand.Rand, c *impl.Core) {
	var nodes []*impl.Core
	changeCores(c, func(node *impl.Core) { nodes = append(nodes, node) })
	node, other := nodes[random.IntN(len(nodes))], nodes[random.IntN(len(nodes))]
	switch random.IntN(8) {
	case 0:
		node.Kind = random.IntN(31) - 1
	case 1:
		node.Text = []string{"", "x", "ab", "ba", "a\x80", strings.Repeat("x", 121)}[random.IntN(6)]
	case 2:
		node.Number = random.IntN(60) - 2
	case 3:
		node.Line = random.IntN(4) - 1
	case 4:
		node.Kids = append(slices.Clone(node.Kids), core("null"))
	case 5:
		node.Kids = node.Kids[:max(0, len(node.Kids)-1)]
	case 6:
		node.Op = random.IntN(260) - 2
	default:
		*node = copiedCore(*other)
	}
}

// Lowered programs with random changes are valid exactly if they follow the rules.
func TestRandomProgramsByRules(t *testing.T) {
	m := unitMaker{random: rand.New(rand.NewPCG(10, 4))}
	valid, invalid := 0, 0
	for range 6000 {
		u := m.fineUnit()
		p, ok := impl.LowerUnit(u)
		if !ok {
			continue
		}
		for range m.random.IntN(4) {
			spoilCore(m.random, &p.Routines[m.random.IntN(len(p.Routines))].Body)
		}
		switch r := &p.Routines[m.random.IntN(len(p.Routines))]; m.random.IntN(12) {
		case 0:
			r.Params = m.random.IntN(8) - 1
		case 1:
			r.Slots = r.Slots[:m.random.IntN(len(r.Slots)+1)]
		case 2:
			p.Main = m.random.IntN(len(p.Routines)+2) - 1
		case 3:
			p.Globals = p.Globals[:m.random.IntN(len(p.Globals)+1)]
		case 4:
			p.Records = p.Records[:m.random.IntN(len(p.Records)+1)]
		case 5:
			p.Routines = p.Routines[:m.random.IntN(len(p.Routines)+1)]
		}
		for _, r := range p.Routines {
			checkCore(t, r.Body)
		}
		if checkProgramByRule(t, p) {
			valid++
		} else {
			invalid++
		}
	}
	if valid < 1000 || invalid < 1500 {
		t.Errorf("%d programs are valid and %d are not", valid, invalid)
	}
}

func TestCoresFarBeyondTheLimits(t *testing.T) {
	deep := core(`string:"end"`)
	for range 60000 {
		deep = impl.Core{Kind: kindOf("repeat"), Kids: []impl.Core{deep}}
	}
	wide := impl.Core{Kind: kindOf("block"), Line: -2, Kids: slices.Repeat([]impl.Core{core("integer:7")}, 300000)}
	odd := impl.Core{Kind: 1000, Op: math.MinInt, Text: strings.Repeat("x", 1000000), Number: math.MinInt, Line: math.MinInt, Kids: []impl.Core{wide, deep, wide}}
	for _, c := range []impl.Core{deep, wide, odd} {
		if got, want := impl.CountCore(c), coreTotal(c); got != want {
			t.Errorf("CountCore gives %d, want %d", got, want)
		}
		p := strictProgram(c)
		if impl.IsValidProgram(p) {
			t.Error("a program far beyond the limits is valid")
		}
	}
	if got, want := impl.FormatCore(deep), strings.Repeat("repeat(", 60000)+`string:"end"`+strings.Repeat(")", 60000); got != want {
		t.Errorf("the form of the deep tree has %d bytes, want %d", len(got), len(want))
	}
	if got, want := impl.FormatCore(wide), "block("+strings.Repeat("integer:7, ", 299999)+"integer:7)"; got != want {
		t.Errorf("the form of the wide tree has %d bytes, want %d", len(got), len(want))
	}
	if got := impl.FormatCore(odd); !strings.HasPrefix(got, "?(block(integer:7, ") || !strings.HasSuffix(got, ", integer:7))") {
		t.Errorf("the form of the odd tree has %d bytes", len(got))
	}
	// Nodes with the same kids are told apart as nodes; more than 2^60 of them, or a tree that contains itself, are not walked to the end.
	tree := core("null")
	for range 80 {
		tree = impl.Core{Kind: kindOf("block"), Kids: slices.Repeat([]impl.Core{tree}, 24)}
	}
	own := []impl.Core{{Kind: kindOf("repeat")}}
	own[0].Kids = own
	for _, c := range []impl.Core{tree, own[0]} {
		if impl.IsValidProgram(strictProgram(c)) {
			t.Error("a tree without an end is valid")
		}
	}
	if impl.IsValidProgram(impl.Program{Routines: make([]impl.Routine, 100000), Records: make([]impl.RecordType, 100000), Globals: make([]string, 100000)}) {
		t.Error("a program of empty declarations is valid")
	}
	if p, ok := impl.LowerUnit(impl.Unit{Procedures: make([]impl.Procedure, 100000)}); ok || !samePrograms(p, impl.Program{}) {
		t.Error("a unit of empty procedures is lowered")
	}
}

// namedUnit is a unit without faults in which a name of six bytes stands wherever one can.
func namedUnit(name string) impl.Unit {
	texts := blockOf(treeOf(impl.ExprString, name), treeOf(impl.ExprCset, "adehrs"), nameOf(name), treeOf(impl.ExprDefer, name), treeOf(impl.ExprField, name, nameOf(name)))
	return impl.Unit{
		Records: []impl.RecordType{{Name: "r", Fields: []string{name, "f"}}}, Globals: []string{name},
		Procedures: []impl.Procedure{{Name: "main", Body: copiedTree(texts)}, {Name: "p", Params: []string{name}, Body: texts}, {Name: "q", Locals: []string{name}, Body: copiedTree(texts)}},
	}
}

// The bytes of the texts of the unit are changed after the call: a text of the program that shares them would change too.
func TestLoweredProgramsShareNoMemory(t *testing.T) {
	bytes := []byte("shared")
	name := unsafe.String(&bytes[0], len(bytes))
	set := []byte("abc")
	units := []impl.Unit{
		namedUnit(name), {Records: []impl.RecordType{{Name: name}}, Procedures: []impl.Procedure{{Name: "main", Body: blockOf(nameOf(name))}}}, {Procedures: []impl.Procedure{{Name: name, Body: blockOf()}, {Name: "main", Body: blockOf(nameOf(name))}}},
		{Procedures: []impl.Procedure{{Name: "main", Body: blockOf(nameOf(name), treeOf(impl.ExprDefer, name), treeOf(impl.ExprCset, unsafe.String(&set[0], len(set))))}}},
	}
	for _, u := range units {
		copy(bytes, "shared")
		copy(set, "abc")
		first, ok := impl.LowerUnit(u)
		want := copiedProgram(first)
		clear(bytes)
		clear(set)
		if !ok || !samePrograms(first, want) {
			t.Errorf("the program %.500s shares memory with its unit, %v", programForm(first), ok)
		}
	}
	for _, u := range []impl.Unit{namedUnit("shared"), orderedUnit(), slotsUnit(3, 4, 5, 6), fieldsUnit(shapes(2)[40:60]...)} {
		before := copiedUnit(u)
		first, ok := impl.LowerUnit(u)
		second, _ := impl.LowerUnit(u)
		want := copiedProgram(second)
		checkNoCommonMemory(t, first)
		overwriteProgram(&first)
		if !ok || !samePrograms(second, want) || !reflect.DeepEqual(u, before) {
			t.Errorf("two programs of %.500s share memory, or one shares it with the unit, %v", unitForm(before), ok)
		}
		overwriteUnit(&u)
		if !samePrograms(second, want) {
			t.Errorf("the program of %.500s shares memory with it", unitForm(before))
		}
	}
}

// checkNoCommonMemory expects that no two lists of kids of a program are the same memory.
func checkNoCommonMemory(t *testing.T, p impl.Program) {
	t.Helper()
	met := map[*impl.Core]bool{}
	for i := range p.Routines {
		changeCores(&p.Routines[i].Body, func(node *impl.Core) {
			spare := node.Kids[:cap(node.Kids)]
			for k := range spare {
				if met[&spare[k]] {
					t.Fatalf("two nodes of %.500s have the same kids", programForm(p))
				}
				met[&spare[k]] = true
			}
		})
	}
}

// overwriteProgram changes everything of a program, and the memory behind its lists too.
func overwriteProgram(p *impl.Program) {
	for i := range p.Routines {
		r := &p.Routines[i]
		changeCores(&r.Body, func(node *impl.Core) {
			spare := node.Kids[:cap(node.Kids)]
			for k := range spare {
				spare[k] = impl.Core{Kind: -1, Text: "other"}
			}
			node.Text = "other"
		})
		overwriteTexts(r.Slots)
	}
	for i := range p.Records {
		overwriteTexts(p.Records[i].Fields)
		p.Records[i] = impl.RecordType{Name: "other"}
	}
	overwriteTexts(p.Globals)
}

func overwriteTexts(list []string) {
	spare := list[:cap(list)]
	for i := range spare {
		spare[i] = "other"
	}
}

// The memory behind the lists of the arguments is not read, nor written.
func TestSpareMemoryOfLowering(t *testing.T) {
	kids := []impl.Expr{nameOf("b"), nameOf("c"), {Kind: -1, Text: "spare"}}
	names := []string{"a", "d", "if", "if"}
	u := impl.Unit{Records: []impl.RecordType{{Name: "r", Fields: names[:1]}}, Globals: names[1:2], Procedures: []impl.Procedure{{Name: "main", Locals: names[:1], Body: impl.Expr{Kind: impl.ExprBlock, Kids: kids[:2]}}, {Name: "p", Params: names[:2], Body: impl.Expr{Kind: impl.ExprBlock, Kids: kids[:1]}}, {Body: kids[2]}}[:2]}
	p, ok := checkLowering(t, u)
	if !ok || p.Routines[0].Slots[1] != "b" || !slices.Equal(names, []string{"a", "d", "if", "if"}) || kids[2].Kind != -1 {
		t.Errorf("the memory behind the lists counts: %v, %v, %.500s", names, kids, programForm(p))
	}
	cores := []impl.Core{core("null"), core("none"), {Kind: -1, Text: "spare"}}
	body := impl.Core{Kind: kindOf("block"), Kids: cores[:2]}
	routines := []impl.Routine{{Name: "main", Slots: names[:0], Body: body}, {Name: "if"}}
	checkProgram(t, impl.Program{Routines: routines[:1], Globals: names[:2]}, true)
	if impl.CountCore(body) != 3 || impl.FormatCore(body) != "block(null, none)" || cores[2].Kind != -1 || names[2] != "if" || routines[1].Name != "if" {
		t.Errorf("the memory behind the kids counts: %d, %s, %v, %v", impl.CountCore(body), impl.FormatCore(body), cores, names)
	}
}

func TestLoweringKeepsNoState(t *testing.T) {
	for range 3 {
		checkBody(t, "case x of {1 : y}", "if(operate::=(local:2, local:0), if(operate:===(local:2, integer:1), local:1, none), none)")
		checkNotLowered(t, mainWith(treeOf(impl.ExprBreak, "")))
		checkBody(t, "suspend &letters", `suspend(cset:"ABCDEFGHIJKLMNOPQRSTUVWXYZabcdefghijklmnopqrstuvwxyz", null)`)
		checkNode(t, core("break(next)"), false)
		checkNode(t, core("break(every(null, next))"), true)
		checkProgram(t, fullProgram(), true)
		checkProgram(t, impl.Program{}, false)
		if fewest, most := impl.OperatorArity(73); impl.OperatorText(250) != "||:=" || fewest != 2 || most != 8 || impl.OperatorText(80) != "" {
			t.Error("an operator depends on earlier calls")
		}
	}
}
