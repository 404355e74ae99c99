package tests

import (
	"fmt"
	"math"
	"math/rand/v2"
	"reflect"
	"slices"
	"strings"
	"testing"
	"unsafe"

	"loop.example/g03106/impl"
)

const maxSlots = 24

// functionList are the names of the functions in the order of their numbers.
const functionList = `write image type integer string cset list table set put push get pop pull member insert delete key sort copy
	find upto many any match tab move pos repl reverse left right center trim map ord char abs seq
	Len Pos RPos Tab RTab Any NotAny Span Break Arb Rem Arbno Fence Abort Empty Fail`

var functionWords = wordsOf(functionList)

// The codes of CheckUnit by the chapter.
const (
	fine = iota
	invalid
	duplicate
	noMain
	wrongContext
	wrongField
	wrongDefer
	tooManySlots
)

// A step leads from a node to one of its kids.
type step struct {
	from impl.Expr
	kid  int
}

// A place is a node with the steps that lead to it from the root.
type place struct {
	node  impl.Expr
	steps []step
}

// preorder are the places of all nodes of a tree.
func preorder(e impl.Expr, steps ...step) []place {
	places := []place{{e, steps}}
	for i, kid := range e.Kids {
		places = append(places, preorder(kid, append(slices.Clone(steps), step{e, i})...)...)
	}
	return places
}

func isLoopWithDo(e impl.Expr) bool {
	return e.Kind == impl.ExprWhile || e.Kind == impl.ExprUntil || e.Kind == impl.ExprEvery
}

// enters reports whether a step leads into a loop.
func (s step) enters() bool {
	return s.from.Kind == impl.ExprRepeat || isLoopWithDo(s.from) && s.kid == 1
}

// parts reports whether a step parts what it leads to from the loops around it.
func (s step) parts() bool {
	return s.from.Kind == impl.ExprCreate || s.from.Kind == impl.ExprBreak || isLoopWithDo(s.from) && s.kid == 0
}

// isInLoop is the definition of being in a loop, for every loop around the node.
func (p place) isInLoop() bool {
	for i, s := range p.steps {
		if s.enters() && !slices.ContainsFunc(p.steps[i+1:], step.parts) {
			return true
		}
	}
	return false
}

func (p place) isInCreate() bool {
	return slices.ContainsFunc(p.steps, func(s step) bool { return s.from.Kind == impl.ExprCreate })
}

func recordNames(u impl.Unit) []string {
	var names []string
	for _, r := range u.Records {
		names = append(names, r.Name)
	}
	return names
}

func procedureNames(u impl.Unit) []string {
	var names []string
	for _, p := range u.Procedures {
		names = append(names, p.Name)
	}
	return names
}

// localsByRule is LocalNames by definition, for a valid unit and a procedure that it has.
func localsByRule(u impl.Unit, procedure int) []string {
	p := u.Procedures[procedure]
	names := append(slices.Clone(p.Params), p.Locals...)
	others := slices.Concat(recordNames(u), u.Globals, procedureNames(u), functionWords)
	for _, met := range preorder(p.Body) {
		if met.node.Kind != impl.ExprName && met.node.Kind != impl.ExprDefer {
			continue
		}
		if !slices.Contains(names, met.node.Text) && !slices.Contains(others, met.node.Text) {
			names = append(names, met.node.Text)
		}
	}
	return names
}

// meaningByRule is ResolveName by definition, for a valid unit; locals are the local names of the procedure.
func meaningByRule(u impl.Unit, locals []string, name string) [2]int {
	for _, sort := range []struct {
		code  int
		names []string
	}{{1, locals}, {5, recordNames(u)}, {2, u.Globals}, {3, procedureNames(u)}, {4, functionWords}} {
		if k := slices.Index(sort.names, name); k >= 0 {
			return [2]int{sort.code, k}
		}
	}
	return [2]int{0, 0}
}

// haveTwins reports whether two of some names are equal.
func haveTwins(names []string) bool {
	for i, name := range names {
		if slices.Contains(names[:i], name) {
			return true
		}
	}
	return false
}

// duplicatesByRule are all faults of the second check, with their lines.
func duplicatesByRule(u impl.Unit) [][2]int {
	var faults [][2]int
	earlier := slices.Clone(functionWords)
	visit := func(name string, inner []string, line int) {
		if slices.Contains(earlier, name) || haveTwins(inner) {
			faults = append(faults, [2]int{duplicate, line})
		}
		earlier = append(earlier, name)
	}
	for _, r := range u.Records {
		visit(r.Name, r.Fields, r.Line)
	}
	for _, name := range u.Globals {
		visit(name, nil, 0)
	}
	for _, p := range u.Procedures {
		visit(p.Name, slices.Concat(p.Params, p.Locals), p.Line)
	}
	return faults
}

// nodeFaultsByRule are the codes of the faults of one node.
func nodeFaultsByRule(u impl.Unit, locals []string, p place) []int {
	var codes []int
	needsLoop := slices.Contains([]int{impl.ExprBreak, impl.ExprNext}, p.node.Kind)
	leaves := slices.Contains([]int{impl.ExprReturn, impl.ExprSuspend, impl.ExprFail}, p.node.Kind)
	if needsLoop && !p.isInLoop() || leaves && p.isInCreate() {
		codes = append(codes, wrongContext)
	}
	hasField := func(r impl.RecordType) bool { return slices.Contains(r.Fields, p.node.Text) }
	if p.node.Kind == impl.ExprField && !slices.ContainsFunc(u.Records, hasField) {
		codes = append(codes, wrongField)
	}
	if p.node.Kind == impl.ExprDefer && !slices.Contains(locals, p.node.Text) && !slices.Contains(u.Globals, p.node.Text) {
		codes = append(codes, wrongDefer)
	}
	return codes
}

// faultsByRule are all faults of a valid unit with their codes and lines, in the order of the checks.
func faultsByRule(u impl.Unit) [][2]int {
	faults := duplicatesByRule(u)
	hasMain := false
	for i, p := range u.Procedures {
		locals, slots := localsByRule(u, i), 0
		for _, met := range preorder(p.Body) {
			for _, code := range nodeFaultsByRule(u, locals, met) {
				faults = append(faults, [2]int{code, met.node.Line})
			}
			if met.node.Kind == impl.ExprCase {
				slots++
			}
		}
		if slots+len(locals) > maxSlots {
			faults = append(faults, [2]int{tooManySlots, p.Line})
		}
		hasMain = hasMain || p.Name == "main" && len(p.Params) == 0
	}
	if !hasMain {
		faults = append(faults, [2]int{noMain, 0})
	}
	return faults
}

// checkByRule expects of a unit the result of CheckUnit that follows from its definition, and returns it.
func checkByRule(t *testing.T, u impl.Unit, valid bool) (int, int) {
	t.Helper()
	want := [2]int{invalid, 0}
	if valid {
		want = append(faultsByRule(u), [2]int{fine, 0})[0]
	}
	code, line := impl.CheckUnit(u)
	if got := [2]int{code, line}; got != want {
		t.Fatalf("CheckUnit(%.1000s) = %v, want %v", unitForm(u), got, want)
	}
	return code, line
}

// askedNames are names that occur in a unit, and some others.
func askedNames(u impl.Unit) []string {
	names := slices.Concat(recordNames(u), u.Globals, procedureNames(u), []string{"", "write", "Fail", "nowhere", "if", "pos", "Pos", "a b"})
	for _, r := range u.Records {
		names = append(names, r.Fields...)
	}
	for _, p := range u.Procedures {
		names = slices.Concat(names, p.Params, p.Locals)
		changeNodes(&p.Body, func(node *impl.Expr) { names = append(names, node.Text) })
	}
	slices.Sort(names)
	return slices.Compact(names)
}

// checkNames expects of a procedure the results of LocalNames and ResolveName that follow from their definitions. It exists if it is one of a valid unit.
func checkNames(t *testing.T, u impl.Unit, procedure int, exists bool) {
	t.Helper()
	var want []string
	if exists {
		want = localsByRule(u, procedure)
	}
	got := impl.LocalNames(u, procedure)
	if !slices.Equal(got, want) {
		t.Fatalf("LocalNames(%.1000s, %d) = %v, want %v", unitForm(u), procedure, got, want)
	}
	for _, name := range askedNames(u) {
		meaning := [2]int{0, 0}
		if exists {
			meaning = meaningByRule(u, want, name)
		}
		if kind, k := impl.ResolveName(u, procedure, name); meaning != [2]int{kind, k} {
			t.Fatalf("ResolveName(%.1000s, %d, %q) = %d, %d, want %v", unitForm(u), procedure, name, kind, k, meaning)
		}
	}
}

// checkScopes compares the functions of a unit with their definitions, expects that they leave it as it was, and that local names are distinct and mean their slots if the unit has no fault (P9). It returns the result of CheckUnit.
func checkScopes(t *testing.T, u impl.Unit) (int, int) {
	t.Helper()
	before := copiedUnit(u)
	valid := followUnitRules(u)
	code, line := checkByRule(t, u, valid)
	for procedure := -1; procedure <= len(u.Procedures); procedure++ {
		checkNames(t, u, procedure, valid && 0 <= procedure && procedure < len(u.Procedures))
	}
	if code == fine {
		checkPromise9(t, u)
	}
	if !reflect.DeepEqual(u, before) {
		t.Fatalf("%.500s was changed to %.500s", unitForm(before), unitForm(u))
	}
	return code, line
}

func checkPromise9(t *testing.T, u impl.Unit) {
	t.Helper()
	for i := range u.Procedures {
		names := impl.LocalNames(u, i)
		for k, name := range names {
			if slices.Contains(names[:k], name) || len(names) > maxSlots {
				t.Fatalf("the local names of procedure %d of %.500s are %v", i, unitForm(u), names)
			}
			if kind, number := impl.ResolveName(u, i, name); kind != 1 || number != k {
				t.Fatalf("%s, number %d of procedure %d of %.500s, means %d, %d", name, k, i, unitForm(u), kind, number)
			}
		}
	}
}

// checkFault expects a code and a line of a source that can be parsed.
func checkFault(t *testing.T, source string, wantCode int, wantLine int) {
	t.Helper()
	u, line := parsedUnit(t, source)
	if line != 0 {
		t.Fatalf("ParseUnit(%.300q) has an error in line %d", source, line)
	}
	if code, line := checkScopes(t, u); code != wantCode || line != wantLine {
		t.Errorf("CheckUnit of %.500q = %d, %d, want %d, %d", source, code, line, wantCode, wantLine)
	}
}

// blockOf is a body.
func blockOf(statements ...impl.Expr) impl.Expr {
	return treeOf(impl.ExprBlock, "", statements...)
}

// mainWith is a unit whose only procedure is main with some statements; its record has two fields.
func mainWith(statements ...impl.Expr) impl.Unit {
	return impl.Unit{Records: []impl.RecordType{{Name: "pair", Fields: []string{"left", "tail"}}}, Procedures: []impl.Procedure{{Name: "main", Body: blockOf(statements...), Line: 77}}}
}

// lined is a node in a line.
func lined(line int, e impl.Expr) impl.Expr {
	e.Line = line
	return e
}

func TestScopeConstants(t *testing.T) {
	got := []int{impl.CheckFine, impl.CheckInvalid, impl.CheckDuplicate, impl.CheckMain, impl.CheckContext, impl.CheckField, impl.CheckDefer, impl.CheckSlots}
	if want := []int{fine, invalid, duplicate, noMain, wrongContext, wrongField, wrongDefer, tooManySlots}; !slices.Equal(got, want) || impl.MaxSlots != maxSlots {
		t.Errorf("the codes are %v, MaxSlots is %d", got, impl.MaxSlots)
	}
}

// The chapter lists 55 names: write has the number 0 and Fail the number 54.
func TestFunctionNames(t *testing.T) {
	names := functionWords
	if len(names) != 55 || names[0] != "write" || names[20] != "find" || names[38] != "seq" || names[39] != "Len" || names[54] != "Fail" {
		t.Fatalf("the list has the %d names %v", len(names), names)
	}
	for number, name := range names {
		if got := impl.FunctionName(number); got != name {
			t.Errorf("FunctionName(%d) = %q, want %q", number, got, name)
		}
		if got := impl.FunctionNumber(name); got != number {
			t.Errorf("FunctionNumber(%q) = %d, want %d", name, got, number)
		}
		for _, other := range []string{name + " ", " " + name, name + "s", name[1:], name[:len(name)-1], name + "\x00", strings.ToUpper(name), "&" + name} {
			if got := impl.FunctionNumber(other); got != slices.Index(names, other) {
				t.Errorf("FunctionNumber(%q) = %d", other, got)
			}
		}
	}
	for _, number := range append(extremeInts(), -1000, -55, -54, -2, -1, 55, 56, 64, 110, 255, 256+54, 1000000) {
		if got := impl.FunctionName(number); got != "" {
			t.Errorf("FunctionName(%d) = %q", number, got)
		}
	}
	for _, name := range append(wordsOf(reservedList), "", "main", "x", "Write", "WRITE", "writes", "len", "rPos", "Rpos", "find20", "0", "null", "subject", "\xff", "write image", strings.Repeat("write", 100000)) {
		if got := impl.FunctionNumber(name); got != -1 {
			t.Errorf("FunctionNumber(%.50q) = %d", name, got)
		}
	}
}

func TestLocalNamesOfSources(t *testing.T) {
	outside := "record pair(head, tail) record none() global g, h procedure other(a) local b; a := b := c end "
	for _, c := range []struct{ procedure, want string }{
		{"procedure main() end", ""}, {"procedure main() 1; \"a\"; 'b'; &pos; fail end", ""},
		{"procedure main(a) end", "a"}, {"procedure main() local a; end", "a"}, {"procedure main() a end", "a"}, {"procedure main() defer a end", "a"},
		{"procedure main(a, b) local c, d; local e; f := g end", "a b c d e f"}, {"procedure main(z, y) local x, w; v; u; w; x; y; z end", "z y x w v u"},
		{"procedure main() b := a + b * c(a) end", "b a c"}, {"procedure main() a := defer b; defer a; b end", "a b"}, {"procedure main() defer b; a; b; defer a end", "b a"},
		{"procedure main() write(g, main, pair, none, other, h, Fail) end", ""}, {"procedure main() defer g; defer write; defer main; defer pair end", ""},
		{"procedure main() a.head.tail; head; b.c end", "a head b"}, {"procedure main() head.tail end", "head"}, {"procedure main() local head; x.head end", "head x"}, {"procedure main() left.right end", ""}, {"procedure main() local left; x.left end", "left x"},
		{"procedure main(write, g) local main, pair; write(g, main, pair, other, h, find) end", "write g main pair"}, {"procedure main() local Fail, other; end", "Fail other"},
		{"procedure main(a, a) local a, b, b; b; c; a end", "a a a b b c"},
		{"procedure main() if c then b else a; while d do e; case f of {g : h; i : j; default : k} end", "c b a d e f i j k"},
		{"procedure main() x[y : z] := [p, {q; r}, (s, u)]; create v; every w to 1 by o end", "x y z p q r s u v w o"},
		{"procedure main() Write; fail; Main; A; a; _a; a1 end", "Write Main A a _a a1"},
	} {
		u, line := parsedUnit(t, outside+c.procedure)
		if got := strings.Join(impl.LocalNames(u, 1), " "); line != 0 || got != c.want {
			t.Errorf("LocalNames of %q are %q, want %q", c.procedure, got, c.want)
		}
		if got := strings.Join(impl.LocalNames(u, 0), " "); got != "a b c" {
			t.Errorf("LocalNames of the procedure before %q are %q", c.procedure, got)
		}
		checkScopes(t, u)
	}
}

// Every kind of node has the names of its kids, in their order; the name of a field and other texts are no names of variables.
func TestLocalNamesInEveryNode(t *testing.T) {
	for _, rule := range exprRules {
		for kids := rule.fewest; kids <= rule.most; kids++ {
			for _, text := range sampleTexts(rule.kind) {
				node := nodeWith(rule, kids)
				node.Text = text
				want := []string{}
				for i := range kids {
					name := fmt.Sprintf("k%d", kids-i)
					node.Kids[i] = treeOf([]int{impl.ExprName, impl.ExprDefer}[i%2], name)
					want = append(want, name)
				}
				if rule.kind == impl.ExprName || rule.kind == impl.ExprDefer {
					want = append(want, text)
				}
				u := mainWith(node, treeOf(impl.ExprNot, "", node), nameOf("last"))
				if got := impl.LocalNames(u, 0); !slices.Equal(got, append(want, "last")) {
					t.Errorf("LocalNames of %s are %v, want %v and last", form(node), got, want)
				}
				checkScopes(t, u)
			}
		}
	}
}

// The names of a name's meanings: every subset of the sorts of declarations, the name of a function and one of none.
func TestMeaningsOfOneName(t *testing.T) {
	for _, name := range []string{"write", "Fail", "match", "own", "main"} {
		for subset := range 1 << 6 {
			has := func(sort int) bool { return subset>>sort&1 == 1 }
			choose := func(sort int, other string) string {
				if has(sort) {
					return name
				}
				return other
			}
			u := impl.Unit{
				Records: []impl.RecordType{{Name: "r0"}, {Name: "r1", Fields: []string{name}}, {Name: choose(0, "r2")}},
				Globals: []string{"g0", "g1", "g2", choose(1, "g3")},
				Procedures: []impl.Procedure{
					{Name: "p0", Body: blockOf()}, {Name: "p1", Params: []string{"a", choose(2, "b")}, Locals: []string{"c", "d", choose(3, "e")}, Body: blockOf(nameOf("f"), nameOf(choose(4, "h")))},
					{Name: "p2", Body: blockOf()}, {Name: "p3", Body: blockOf()}, {Name: choose(5, "p4"), Body: blockOf()},
				},
			}
			want := [2]int{0, 0}
			switch function := slices.Index(functionWords, name); {
			case has(2):
				want = [2]int{1, 1}
			case has(3):
				want = [2]int{1, 4}
			case has(0):
				want = [2]int{5, 2}
			case has(1):
				want = [2]int{2, 3}
			case has(5):
				want = [2]int{3, 4}
			case function >= 0:
				want = [2]int{4, function}
			case has(4):
				want = [2]int{1, 6}
			}
			if kind, k := impl.ResolveName(u, 1, name); want != [2]int{kind, k} {
				t.Errorf("ResolveName(%s, 1, %s) = %d, %d, want %v", unitForm(u), name, kind, k, want)
			}
			checkScopes(t, u)
		}
	}
}

func TestFirstOfTwoDeclarations(t *testing.T) {
	u, _ := parsedUnit(t, "record a() record b(x) record b(y) record c() record c() global d, e, e, f, f procedure g() end procedure h() end procedure h(a) end procedure main(p, q, q, r, b) local s, s, q, t, e; v; w; v end procedure main() p end")
	for name, want := range map[string][2]int{
		"a": {5, 0}, "b": {1, 4}, "c": {5, 3}, "d": {2, 0}, "e": {1, 9}, "f": {2, 3}, "g": {3, 0}, "h": {3, 1}, "main": {3, 3}, "p": {1, 0}, "q": {1, 1}, "r": {1, 3}, "s": {1, 5}, "t": {1, 8}, "v": {1, 10}, "w": {1, 11},
		"x": {0, 0}, "y": {0, 0}, "": {0, 0}, "Write": {0, 0}, "write": {4, 0}, "Fail": {4, 54}, "if": {0, 0}, "v ": {0, 0}, "\xff": {0, 0}, "1": {0, 0},
	} {
		if kind, k := impl.ResolveName(u, 3, name); want != [2]int{kind, k} {
			t.Errorf("ResolveName of %q is %d, %d, want %v", name, kind, k, want)
		}
	}
	for name, want := range map[string][2]int{"b": {5, 1}, "e": {2, 1}, "p": {1, 0}, "q": {0, 0}, "v": {0, 0}} {
		if kind, k := impl.ResolveName(u, 4, name); want != [2]int{kind, k} {
			t.Errorf("ResolveName of %q in the last procedure is %d, %d, want %v", name, kind, k, want)
		}
	}
	checkScopes(t, u)
}

func TestProceduresThatDoNotExist(t *testing.T) {
	units := []impl.Unit{{}, {Globals: []string{"g"}}, sampleUnit(), mainWith(nameOf("x"))}
	for _, u := range units {
		for _, index := range append(extremeInts(), -2, -1, len(u.Procedures), len(u.Procedures)+1, 12, 1000) {
			if names := impl.LocalNames(u, index); len(names) > 0 {
				t.Errorf("LocalNames(%s, %d) = %v", unitForm(u), index, names)
			}
			for _, name := range []string{"", "g", "x", "write", "main", "pair"} {
				if kind, k := impl.ResolveName(u, index, name); kind != 0 || k != 0 {
					t.Errorf("ResolveName(%s, %d, %q) = %d, %d", unitForm(u), index, name, kind, k)
				}
			}
		}
		checkScopes(t, u)
	}
}

// checkInvalid expects that a unit that is not valid has no names, and the first code.
func checkInvalid(t *testing.T, u impl.Unit) {
	t.Helper()
	if code, line := impl.CheckUnit(u); code != invalid || line != 0 {
		t.Fatalf("CheckUnit(%.300s) = %d, %d", unitForm(u), code, line)
	}
	for index := -1; index < min(len(u.Procedures), 20)+1; index++ {
		names := impl.LocalNames(u, index)
		kind, k := impl.ResolveName(u, index, "main")
		other, number := impl.ResolveName(u, index, "write")
		if len(names) != 0 || kind != 0 || k != 0 || other != 0 || number != 0 {
			t.Fatalf("%.300s has the names %v; main means %d, %d and write %d, %d", unitForm(u), names, kind, k, other, number)
		}
	}
}

func TestScopesOfInvalidUnits(t *testing.T) {
	sample := sampleUnit()
	for place := range namePlaces(&sample) {
		for _, text := range []string{"", "if", "1", "abcdefghijklm", "a b", "\xff"} {
			u := copiedUnit(sample)
			*namePlaces(&u)[place] = text
			checkInvalid(t, u)
		}
	}
	for _, change := range []func(u *impl.Unit){
		func(u *impl.Unit) { u.Records = slices.Repeat(u.Records[:1], 9) }, func(u *impl.Unit) { u.Records[1].Fields = numberedNames(7) }, func(u *impl.Unit) { u.Globals = numberedNames(13) },
		func(u *impl.Unit) { u.Procedures = slices.Repeat(u.Procedures[:1], 13) }, func(u *impl.Unit) { u.Procedures[2].Params = numberedNames(7) }, func(u *impl.Unit) { u.Procedures[0].Locals = numberedNames(9) },
		func(u *impl.Unit) { u.Records[0].Line = -1 }, func(u *impl.Unit) { u.Procedures[2].Line = math.MinInt }, func(u *impl.Unit) { u.Procedures[1].Body.Kids[2].Line = -1 },
		func(u *impl.Unit) { u.Procedures[1].Body.Kind = impl.ExprList }, func(u *impl.Unit) { u.Procedures[1].Body = impl.Expr{} }, func(u *impl.Unit) { u.Procedures[2].Body = shapedTree(601, 30, 0, true) }, func(u *impl.Unit) { u.Procedures[2].Body = shapedTree(500, 41, 0, true) },
		func(u *impl.Unit) {
			u.Procedures[0].Body = blockOf(chain(ruleOf(impl.ExprNot), 1, 0, 10000, nameOf("x")))
		},
	} {
		u := copiedUnit(sample)
		change(&u)
		checkInvalid(t, u)
	}
	for _, rule := range exprRules {
		for _, bad := range faultyNodes(rule) {
			checkInvalid(t, mainWith(nameOf("x"), treeOf(impl.ExprNot, "", bad)))
		}
	}
	checkInvalid(t, impl.Unit{Procedures: []impl.Procedure{{Name: "main"}}})
	checkInvalid(t, impl.Unit{Procedures: make([]impl.Procedure, 100000), Globals: make([]string, 100000)})
	own := []impl.Expr{{Kind: impl.ExprRepeat}}
	own[0].Kids = own
	if code, line := impl.CheckUnit(impl.Unit{Procedures: []impl.Procedure{{Name: "main", Body: blockOf(own...)}}}); code != invalid || line != 0 {
		t.Errorf("CheckUnit of a tree whose kids contain themselves is %d, %d", code, line)
	}
}

func TestUnitsWithoutFaults(t *testing.T) {
	for _, source := range []string{
		"procedure main() end", "procedure main() local a; end", "procedure p(a) end procedure main() end", "procedure main() end procedure p(a) end", "global Main procedure main() end",
		"record pair(left, right)\nrecord point(x, left)\nglobal a, b\nprocedure f(a, b) local c;\nreturn a.left + b.x\nend\nprocedure main()\nevery write(f(1 to 3)) do next\nend",
		"record x(x) global y procedure main() y.x end", "record r(r) procedure p(p) local r; p.r end procedure main(); end", "procedure p(write, main) local p, Fail; write(Fail) end procedure main() end", "procedure p(a) local b; end procedure main() local a, b; end",
		"global g procedure main(); return defer g | defer h end", "procedure p(find) defer find end procedure main() local main; defer main end", "record r(f) procedure main() local r, p; defer r; defer p end procedure p(r) defer r end",
		"procedure main() return 1; suspend 2; fail end", "procedure main() create x; return suspend fail end", "procedure main() repeat {break; next; break 1} end", "procedure main() while x do break; until x do next; every x do break x; repeat next end",
		"procedure main() create repeat break; create while x do next end", "procedure main() repeat break; while x do y end", "procedure main() while (repeat break) do x; every (while x do next) do y end", "procedure main() repeat break (repeat break); repeat break (every x do next) end",
		"procedure main() every x do if y then {break} else [next, z(break)]; repeat case x of {break : next; default : break} end", "procedure main() &fail; create &fail; create not x end", "procedure main() repeat suspend break do next end",
	} {
		checkFault(t, source, fine, 0)
	}
}

func TestDuplicates(t *testing.T) {
	end := "\nprocedure main() end"
	for _, c := range []struct {
		source string
		line   int
	}{
		{"\nrecord write()", 2}, {"\n\nrecord Fail(a)", 3}, {"record a() record b()\nrecord a()", 2}, {"record a()\nrecord a()\nrecord a()", 2}, {"record a(x)\nrecord b(x, x)", 2}, {"record a(x, y, z, u, v, x)", 1}, {"record a(x, y, y, x)\nrecord write()", 1},
		{"record a(b)\nrecord b(a, c)\nrecord c(c,\nc)", 3}, {"record main()", 2}, {"record a()\nglobal main", 3}, {"\nglobal write", 0}, {"\nglobal a, b, Fail", 0}, {"\nglobal a, b, a", 0}, {"record a()\nglobal b, a", 0}, {"\nglobal a\nrecord a()", 0}, {"global a\nglobal a", 0},
		{"\nprocedure write() end", 2}, {"procedure find(a) end", 1}, {"record a()\nprocedure a() end", 2}, {"procedure a() end\nrecord a()", 1}, {"global a\nprocedure b() end procedure a() end", 2}, {"procedure a() end\nprocedure a(b) end", 2}, {"procedure main() end\n", 3},
		{"procedure p(a, a) end", 1}, {"\nprocedure p(a, b, c, d, e, a) end", 2}, {"\n\nprocedure p()\nlocal a, a; end", 3}, {"procedure p() local a, b, c, d, e, f, g, a; end", 1}, {"procedure p() local a; local b; local a; end", 1}, {"procedure p(a, b)\nlocal c, b; end", 1}, {"procedure p(a)\nlocal a; end", 1}, {"procedure q(a) end\nprocedure p(p, p) end", 2},
		// The first one counts: records before globals before procedures, whatever comes first in the source.
		{"procedure a() end\nprocedure a() end\nrecord b()\nrecord b()", 4}, {"procedure a() end\nprocedure a() end\nglobal write", 0}, {"global write\nrecord b(c, c)", 2}, {"procedure q(a, a) end\nprocedure q(a) end", 1}, {"record b(c, c)\nrecord write()", 1}, {"record write()\nrecord b(c, c)", 1},
	} {
		checkFault(t, c.source+end, duplicate, c.line)
	}
	// Names of functions and of other declarations are free for fields, parameters and locals.
	checkFault(t, "record r(write, r, g, main, p, r1) record r1(write) global g procedure p(write, r, g, main, p) local r1, Fail; end"+end, fine, 0)
	for _, name := range functionWords {
		checkFault(t, "record r()\n record "+name+"()"+end, duplicate, 2)
		checkFault(t, "global g\n global "+name+end, duplicate, 0)
		checkFault(t, "procedure p() end\n procedure "+name+"() end"+end, duplicate, 2)
		checkFault(t, "record r("+name+") procedure p("+name+") end"+end, fine, 0)
	}
}

// Every two places of names of one unit are given one name. The names of the unit are different before.
func TestEveryTwoNames(t *testing.T) {
	sample := impl.Unit{
		Records: []impl.RecordType{{Name: "r0", Fields: []string{"f0", "f1", "f2"}, Line: 10}, {Name: "r1", Line: 11}, {Name: "r2", Fields: []string{"f0"}, Line: 12}},
		Globals: []string{"g0", "g1", "g2"},
		Procedures: []impl.Procedure{
			{Name: "p0", Params: []string{"a0", "a1", "a2"}, Locals: []string{"b0", "b1"}, Body: blockOf(nameOf("x")), Line: 20}, {Name: "main", Locals: []string{"b2", "b3", "b0"}, Body: blockOf(), Line: 21}, {Name: "p2", Params: []string{"a0"}, Body: blockOf(nameOf("a0")), Line: 22},
		},
	}
	codes := map[[2]int]int{}
	count := len(namePlaces(&sample))
	for first := range count {
		for second := range first + 1 {
			for _, name := range []string{"new", "main", "write", "g0", "p2", "x"} {
				u := copiedUnit(sample)
				*namePlaces(&u)[first], *namePlaces(&u)[second] = name, name
				code, line := checkScopes(t, u)
				codes[[2]int{code, line}]++
			}
		}
	}
	for _, result := range [][2]int{{fine, 0}, {noMain, 0}, {duplicate, 0}, {duplicate, 10}, {duplicate, 11}, {duplicate, 12}, {duplicate, 20}, {duplicate, 21}, {duplicate, 22}} {
		if codes[result] < 3 {
			t.Errorf("the result %v was met %d times: %v", result, codes[result], codes)
		}
	}
}

func TestFaultsOfNodes(t *testing.T) {
	for _, c := range []struct {
		statement string
		code      int
		line      int
	}{
		{"break", wrongContext, 1}, {"next", wrongContext, 1}, {"x\ny +\nbreak", wrongContext, 3}, {"[x, {y; next}]", wrongContext, 1}, {"if x then\nbreak else\nnext", wrongContext, 2}, {"repeat x; break", wrongContext, 1}, {"(repeat x) + break", wrongContext, 1},
		{"while break do x", wrongContext, 1}, {"until next do x", wrongContext, 1}, {"every break do x", wrongContext, 1}, {"while break", wrongContext, 1}, {"until x & next", wrongContext, 1}, {"every {next}", wrongContext, 1}, {"repeat while break do x", wrongContext, 1}, {"repeat until next do x", wrongContext, 1}, {"while x do every\nbreak do y", wrongContext, 2}, {"every (while x do y) & break do z", wrongContext, 1},
		{"repeat create break", wrongContext, 1}, {"while x do create next", wrongContext, 1}, {"every x do create {y; [break]}", wrongContext, 1}, {"create break", wrongContext, 1}, {"create (repeat x) | next", wrongContext, 1}, {"repeat\ncreate\nif x then repeat break else\nnext", wrongContext, 4},
		{"repeat break\nbreak", wrongContext, 2}, {"repeat break next", wrongContext, 1}, {"every x do break y + break", wrongContext, 1}, {"repeat repeat break break", wrongContext, 1}, {"repeat break repeat break next", wrongContext, 1}, {"repeat break while next do x", wrongContext, 1}, {"repeat break {x; [y, next]}", wrongContext, 1},
		{"create return", wrongContext, 1}, {"create suspend", wrongContext, 1}, {"create fail", wrongContext, 1}, {"create return x", wrongContext, 1}, {"create suspend x do y", wrongContext, 1}, {"create repeat fail", wrongContext, 1}, {"create\nevery x do\n{y; return}", wrongContext, 3}, {"create create fail", wrongContext, 1}, {"repeat create suspend", wrongContext, 1}, {"create while\nfail do break", wrongContext, 2}, {"create break", wrongContext, 1}, {"return create\nsuspend", wrongContext, 2}, {"suspend x do create\nfail", wrongContext, 2}, {"repeat break create return", wrongContext, 1},
		{"suspend x do break", wrongContext, 1}, {"suspend next", wrongContext, 1}, {"return break", wrongContext, 1}, {"case break of {}", wrongContext, 1}, {"case x of {next : y}", wrongContext, 1}, {"case x of {y :\nnext}", wrongContext, 2}, {"case x of {default :\nbreak}", wrongContext, 2}, {"not break", wrongContext, 1}, {"-next", wrongContext, 1}, {"x(y)[break]", wrongContext, 1}, {"x[y : next]", wrongContext, 1}, {"x to next", wrongContext, 1}, {"x to y by break", wrongContext, 1}, {"break.head", wrongContext, 1}, {"(x, next)", wrongContext, 1},
		{"x.f", wrongField, 1}, {"x.pair", wrongField, 1}, {"x.x", wrongField, 1}, {"x\n.y", fine, 0}, {"x.\nf", wrongField, 1}, {"x.head.\nf.tail", wrongField, 1}, {"x.\nf.\ng", wrongField, 2}, {"x.hea", wrongField, 1}, {"x.Head", wrongField, 1}, {"write.write", wrongField, 1}, {"x.count", wrongField, 1}, {"create x.a", wrongField, 1}, {"x.head; x.tail; x.down; x.head.head", fine, 0},
		{"defer write", wrongDefer, 1}, {"defer main", wrongDefer, 1}, {"defer pair", wrongDefer, 1}, {"x\ndefer single", wrongDefer, 2}, {"create\n{defer Fail}", wrongDefer, 2}, {"defer x; defer count; defer head; defer a", fine, 0}, {"(defer head).head", fine, 0}, {"[defer sum]", wrongDefer, 1},
		// A node is before its kids, and what is left of it before it.
		{"break\nx.\nf", wrongContext, 1}, {"break x.\nf", wrongContext, 1}, {"x.f\nbreak", wrongField, 1}, {"[x.f,\ndefer write]", wrongField, 1}, {"[defer write,\nx.f]", wrongDefer, 1}, {"break\nbreak", wrongContext, 1}, {"(break).\nf", wrongField, 1}, {"(defer write).\nf", wrongField, 1}, {"create return\nx.f", wrongContext, 1}, {"create suspend (x.f) do\nfail", wrongContext, 1}, {"create [defer sum,\nreturn]", wrongDefer, 1}, {"{{{x.f}}}\nbreak", wrongField, 1}, {"x := y +\nx.f * (\nbreak)", wrongField, 2}, {"while x.f do y\ndefer sum", wrongField, 1},
	} {
		source := " global count record pair(head, tail) record single(down) procedure sum() end"
		checkFault(t, "procedure main() "+c.statement+"\nend"+source, c.code, c.line)
		code, line := c.code, c.line
		if code != fine {
			line += 3
		}
		checkFault(t, "procedure p(a)\nx\n\n"+strings.ReplaceAll(c.statement, "main", "p")+"\nend procedure main() end"+source, code, line)
	}
}

// kidSteps are the ways to put a tree into a node of some kinds: as each of its kids, with names as the other ones.
func kidSteps(kinds []exprRule) []func(e impl.Expr, line int) impl.Expr {
	var steps []func(e impl.Expr, line int) impl.Expr
	for _, rule := range kinds {
		for kid := range rule.most {
			steps = append(steps, func(e impl.Expr, line int) impl.Expr {
				node := impl.Expr{Kind: rule.kind, Text: rule.sample, Line: line, Kids: slices.Repeat([]impl.Expr{nameOf("x")}, rule.most)}
				if rule.kind == impl.ExprCase {
					node.Number = (rule.most + 1) % 2
				}
				node.Kids[kid] = e
				return node
			})
		}
	}
	return steps
}

// contextLeaves are the nodes whose surroundings matter, and some that never have a fault.
func contextLeaves() []impl.Expr {
	return []impl.Expr{
		treeOf(impl.ExprBreak, ""), treeOf(impl.ExprNext, ""), treeOf(impl.ExprReturn, ""), treeOf(impl.ExprSuspend, ""), treeOf(impl.ExprFail, ""), nameOf("y"),
	}
}

// Each kid of every kind of node in each kid of every kind of node has break, next, return, suspend and fail.
func TestContextsOfEveryTwoNodes(t *testing.T) {
	steps := kidSteps(exprRules)
	if len(steps) != 91 {
		t.Errorf("there are %d kids", len(steps))
	}
	for _, leaf := range contextLeaves() {
		for _, inner := range steps {
			e := inner(lined(7, leaf), 6)
			checkByRule(t, mainWith(e), true)
			for _, outer := range steps {
				checkByRule(t, mainWith(nameOf("z"), outer(e, 5)), true)
			}
		}
	}
}

// The loops and what parts from them, in one another.
func TestContextsOfLoops(t *testing.T) {
	var kinds []exprRule
	for _, kind := range []int{impl.ExprWhile, impl.ExprUntil, impl.ExprEvery, impl.ExprRepeat, impl.ExprCreate, impl.ExprBreak, impl.ExprSuspend, impl.ExprNot} {
		kinds = append(kinds, ruleOf(kind))
	}
	steps := kidSteps(kinds)
	codes := map[int]int{}
	for _, leaf := range contextLeaves() {
		trees := []impl.Expr{lined(9, leaf)}
		for level := range 4 {
			var next []impl.Expr
			for i, step := range steps {
				for j, e := range trees {
					// In the last level, a part of the trees.
					if level < 3 || (i+j)%4 == 0 {
						next = append(next, step(e, 8-level))
					}
				}
			}
			trees = next
			for _, e := range trees {
				code, _ := checkByRule(t, mainWith(e), true)
				codes[code]++
			}
		}
	}
	if codes[fine] < 5000 || codes[wrongContext] < 5000 || len(codes) != 2 {
		t.Errorf("the codes are %v", codes)
	}
}

func TestMainProcedure(t *testing.T) {
	for source, code := range map[string]int{
		"": noMain, "global g": noMain, "record r()": noMain, "procedure f() end": noMain, "procedure main(a) end": noMain, "procedure main(a, b) local c; end": noMain, "procedure Main() end": noMain, "procedure main1() end": noMain, "procedure mai() end": noMain, "global main": noMain, "record main(main)": noMain, "record r(main) procedure p(main) local write; main end": noMain,
		"procedure main() end": fine, "procedure main() local a, main; end": fine, "procedure main() main() end": fine, "procedure f(a) end procedure g() end procedure main() end": fine, "procedure main() end procedure f(a) end": fine,
		"procedure main(a) end procedure main() end": duplicate, "procedure main() end procedure main() end": duplicate,
	} {
		line := 0
		if code == duplicate {
			line = 1
		}
		checkFault(t, source, code, line)
	}
}

// nested is a case in a case and so on, each as another kid, and at last e.
func nested(cases int, e impl.Expr) impl.Expr {
	for i := range cases {
		kids := []impl.Expr{integerOf(0), integerOf(1), integerOf(2), integerOf(3)}
		kids[i%4] = e
		e = caseOf(1, kids...)
	}
	return e
}

// slotsUnit is a unit with a procedure that has so many parameters, locals, other local names and cases, and some names that are no more local names.
func slotsUnit(params int, locals int, names int, cases int) impl.Unit {
	declared := numberedNames(params + locals)
	var met []impl.Expr
	for i := range names {
		met = append(met, treeOf([]int{impl.ExprName, impl.ExprDefer}[i%2], fmt.Sprintf("m%d", i)))
	}
	met = append(met, slices.Clone(met)...)
	for _, name := range append(declared, "write", "g", "r", "p", "main") {
		met = append(met, nameOf(name))
	}
	var statements []impl.Expr
	for chunk := range slices.Chunk(met, 8) {
		statements = append(statements, treeOf(impl.ExprList, "", chunk...))
	}
	statements = append(statements, nested(cases-cases/2, integerOf(0)), treeOf(impl.ExprField, "f", nested(cases/2, integerOf(0))))
	return impl.Unit{
		Records: []impl.RecordType{{Name: "r", Fields: []string{"f"}}}, Globals: []string{"g"},
		Procedures: []impl.Procedure{{Name: "p", Params: slices.Clone(declared[:params]), Locals: slices.Clone(declared[params:]), Body: blockOf(statements...), Line: 40}, {Name: "main", Body: blockOf(), Line: 41}},
	}
}

func TestLimitOfSlots(t *testing.T) {
	within, beyond := 0, 0
	for _, params := range []int{0, 1, 6} {
		for _, locals := range []int{0, 3, 8} {
			for slots := 21; slots <= 28; slots++ {
				most := slots - params - locals
				for _, cases := range []int{0, 1, 2, most / 2, most - 1, most} {
					code, line := checkScopes(t, slotsUnit(params, locals, most-cases, cases))
					if slots <= 24 && (code != fine || line != 0) || slots > 24 && (code != tooManySlots || line != 40) {
						t.Fatalf("with %d parameters, %d locals and %d cases of %d slots the result is %d, %d", params, locals, cases, slots, code, line)
					}
					if code == fine {
						within++
					} else {
						beyond++
					}
				}
			}
		}
	}
	if within != beyond {
		t.Errorf("%d units are within the limit and %d beyond it", within, beyond)
	}
	// Each procedure has slots of its own.
	two := slotsUnit(6, 2, 8, 8)
	two.Procedures[1].Locals, two.Procedures[1].Body = numberedNames(8), blockOf(nested(16, nameOf("n0")))
	if code, line := checkScopes(t, two); code != fine || line != 0 {
		t.Errorf("two procedures with all slots give %d, %d", code, line)
	}
	two.Procedures[1].Body = blockOf(nested(16, nameOf("more")))
	if code, line := checkScopes(t, two); code != tooManySlots || line != 41 {
		t.Errorf("the second procedure with one slot more gives %d, %d", code, line)
	}
}

// An edit brings one fault into a unit, and touches nothing that another edit touches.
type edit struct {
	code   int
	line   int
	change func(u *impl.Unit)
}

// orderedUnit is a unit without faults: main is the third of five procedures.
func orderedUnit() impl.Unit {
	u := impl.Unit{
		Records: []impl.RecordType{{Name: "r0", Fields: []string{"f0", "f1"}, Line: 31}, {Name: "r1", Fields: []string{"f0", "f2"}, Line: 30}, {Name: "r2", Fields: []string{"f3"}, Line: 33}, {Name: "r3", Line: 32}},
		Globals: []string{"g0", "g1", "g2", "g3"},
	}
	for i, name := range []string{"p0", "p1", "main", "p3", "p4"} {
		p := impl.Procedure{Name: name, Params: []string{"a", "b"}, Locals: []string{"c", "d"}, Line: 60 - i}
		if name == "main" {
			p.Params = nil
		}
		p.Body = blockOf(slices.Repeat([]impl.Expr{nameOf("x")}, 10)...)
		u.Procedures = append(u.Procedures, p)
	}
	return u
}

// orderedEdits are edits of the unit above, in the order in which their faults are found.
func orderedEdits() []edit {
	edits := []edit{
		{invalid, 0, func(u *impl.Unit) { u.Procedures[4].Body.Kids[9].Line = -1 }},
		{duplicate, 31, func(u *impl.Unit) { u.Records[0].Name = "Fail" }}, {duplicate, 30, func(u *impl.Unit) { u.Records[1].Fields[1] = "f0" }}, {duplicate, 33, func(u *impl.Unit) { u.Records[2].Name = "r1" }}, {duplicate, 32, func(u *impl.Unit) { u.Records[3].Fields = []string{"f", "g", "f"} }},
		{duplicate, 0, func(u *impl.Unit) { u.Globals[0] = "write" }}, {duplicate, 0, func(u *impl.Unit) { u.Globals[2] = "g1" }}, {duplicate, 0, func(u *impl.Unit) { u.Globals[3] = "r1" }},
		{duplicate, 60, func(u *impl.Unit) { u.Procedures[0].Params[1] = "a" }}, {duplicate, 59, func(u *impl.Unit) { u.Procedures[1].Name = "find" }}, {duplicate, 58, func(u *impl.Unit) { u.Procedures[2].Locals[1] = "c" }}, {duplicate, 57, func(u *impl.Unit) { u.Procedures[3].Locals[0] = "b" }}, {duplicate, 56, func(u *impl.Unit) { u.Procedures[4].Name = "g1" }},
	}
	for procedure := range 5 {
		put := func(kid int, e impl.Expr) func(u *impl.Unit) {
			return func(u *impl.Unit) { u.Procedures[procedure].Body.Kids[kid] = e }
		}
		// The lines fall: the first fault is not the one in the least line.
		line := 200 - 10*procedure
		deferring, breaking, missing := lined(line, treeOf(impl.ExprDefer, "move")), lined(line-1, treeOf(impl.ExprBreak, "")), lined(line-2, treeOf(impl.ExprField, "f9", nameOf("x")))
		later, returning, last, next := lined(line-3, deferring), lined(line-4, treeOf(impl.ExprReturn, "")), lined(line-5, missing), lined(line-6, treeOf(impl.ExprNext, ""))
		edits = append(edits,
			edit{wrongDefer, line, put(0, deferring)}, edit{wrongContext, line - 1, put(1, breaking)}, edit{wrongField, line - 2, put(2, treeOf(impl.ExprNot, "", missing))},
			edit{wrongDefer, line - 3, put(4, treeOf(impl.ExprRepeat, "", later))}, edit{wrongContext, line - 4, put(5, treeOf(impl.ExprCreate, "", returning))}, edit{wrongField, line - 5, put(6, last)}, edit{wrongContext, line - 6, put(7, treeOf(impl.ExprList, "", next))},
		)
		// The names are at the left of some of the faults above, and yet their number is looked at after them.
		var names []impl.Expr
		for _, name := range numberedNames(23) {
			names = append(names, nameOf(name))
		}
		edits = append(edits, edit{tooManySlots, 60 - procedure, put(3, blockOf(names...))})
	}
	return append(edits, edit{noMain, 0, func(u *impl.Unit) { u.Procedures[2].Params = []string{"z"} }})
}

func TestOrderOfFaults(t *testing.T) {
	edits := orderedEdits()
	if code, line := checkScopes(t, orderedUnit()); code != fine || line != 0 {
		t.Fatalf("without an edit the result is %d, %d", code, line)
	}
	check := func(chosen ...int) {
		u := orderedUnit()
		for _, i := range chosen {
			edits[i].change(&u)
		}
		want := edits[slices.Min(chosen)]
		if code, line := checkByRule(t, u, followUnitRules(u)); code != want.code || line != want.line {
			t.Fatalf("with the edits %v the result is %d, %d, want %d, %d", chosen, code, line, want.code, want.line)
		}
	}
	random := rand.New(rand.NewPCG(9, 1))
	for first := range edits {
		for second := range edits {
			check(first, second)
			check(append(random.Perm(len(edits))[:random.IntN(len(edits))], second)...)
		}
	}
}

// unitMaker makes random units. Careless ones give their declarations any names; large ones have many names and few other faults.
type unitMaker struct {
	random   *rand.Rand
	careless bool
	large    bool
	names    []string
	kinds    []exprRule
}

// one is one of some texts.
func (m *unitMaker) one(texts ...string) string {
	return texts[m.random.IntN(len(texts))]
}

// declaredName is a name of a declaration: own, or, in careless units, seldom any name.
func (m *unitMaker) declaredName(own string) string {
	if m.careless && m.random.IntN(8) == 0 {
		return m.one("r0", "r1", "g0", "g1", "p0", "main", "write", "Fail", "x", "y", "f0", "a0")
	}
	return own
}

func (m *unitMaker) declaredNames(own string, most int) []string {
	var list []string
	for i := range m.random.IntN(most + 1) {
		list = append(list, m.declaredName(fmt.Sprintf("%s%d", own, i)))
	}
	return list
}

// tree is a random tree of nodes of the kinds of the maker.
func (m *unitMaker) tree(depth int) impl.Expr {
	rule := m.kinds[m.random.IntN(len(m.kinds))]
	for depth == 1 && rule.fewest > 0 {
		rule = m.kinds[m.random.IntN(len(m.kinds))]
	}
	node := impl.Expr{Kind: rule.kind, Text: rule.sample, Line: m.random.IntN(1000)}
	switch rule.kind {
	case impl.ExprName:
		node.Text = m.one(m.names...)
	case impl.ExprDefer:
		node.Text = m.one("x", "y", "g0", "g0", "a0", m.one(m.names...))
	case impl.ExprField:
		node.Text = m.one("f0", "f0", "f0", "f1", m.one("f3", "x", "g0"))
	}
	if depth > 1 {
		for range rule.fewest + m.random.IntN(min(rule.most-rule.fewest, 3)+1) {
			node.Kids = append(node.Kids, m.tree(depth-1))
		}
	}
	if rule.kind == impl.ExprCase {
		node.Number = (len(node.Kids) + 1) % 2
	}
	return node
}

// chooseKinds leaves some of the kinds that may have faults out.
func (m *unitMaker) chooseKinds() {
	m.kinds = nil
	without := []string{"break next return suspend fail", "create", "field.", "defer."}
	m.random.Shuffle(len(without), func(i, j int) { without[i], without[j] = without[j], without[i] })
	if !m.large {
		without = without[:1+m.random.IntN(4)]
	}
	for _, rule := range exprRules {
		isLiteral := rule.kind < impl.ExprName || rule.kind == impl.ExprKeyword
		if !listed(strings.Join(without, " "), nodeWords[rule.kind]) && !(m.large && isLiteral) {
			m.kinds = append(m.kinds, rule)
		}
	}
}

// unit is a random unit.
func (m *unitMaker) unit() impl.Unit {
	m.careless, m.large = m.random.IntN(3) == 0, m.random.IntN(8) == 0
	m.names = []string{"x", "y", "z", "a0", "a1", "b0", "g0", "r0", "p0", "main", "write", "Fail", "f0"}
	if m.large {
		m.names = append(m.names, numberedNames(60)...)
	}
	u := impl.Unit{Globals: m.declaredNames("g", 3)}
	for i := range 1 + m.random.IntN(3) {
		u.Records = append(u.Records, impl.RecordType{Name: m.declaredName(fmt.Sprintf("r%d", i)), Fields: m.declaredNames("f", 2), Line: m.random.IntN(1000)})
	}
	procedures := 1 + m.random.IntN(3)
	main := m.random.IntN(procedures + 1)
	for i := range procedures {
		p := impl.Procedure{Name: m.declaredName(fmt.Sprintf("p%d", i)), Params: m.declaredNames("a", 3), Locals: m.declaredNames("b", 2), Line: m.random.IntN(1000)}
		if i == main || m.random.IntN(8) == 0 && !slices.Contains(procedureNames(u), "main") {
			p.Name = "main"
			p.Params = p.Params[:min(len(p.Params), m.random.IntN(3)/2)]
		}
		m.chooseKinds()
		p.Body = blockOf()
		for range m.random.IntN(7) {
			p.Body.Kids = append(p.Body.Kids, m.tree(1+m.random.IntN(6)))
		}
		u.Procedures = append(u.Procedures, p)
	}
	return u
}

func TestScopesOfRandomUnits(t *testing.T) {
	m := unitMaker{random: rand.New(rand.NewPCG(9, 2))}
	codes := map[int]int{}
	for i := range 4000 {
		u := m.unit()
		if i%10 == 0 {
			spoil(m.random, &u.Procedures[m.random.IntN(len(u.Procedures))].Body)
		}
		code, _ := checkScopes(t, u)
		codes[code]++
	}
	for code := fine; code <= tooManySlots; code++ {
		if codes[code] < 50 {
			t.Errorf("%d units have the code %d: %v", codes[code], code, codes)
		}
	}
}

// Sources of every sort are checked as their definitions say, and again without their lines.
func TestScopesOfRandomSources(t *testing.T) {
	s := speaker{random: rand.New(rand.NewPCG(9, 3))}
	checked := 0
	for i := range 3000 {
		s.words = nil
		for range s.random.IntN(6) {
			s.sayOne(unitForms, i%4)
		}
		u, line := parsedUnit(t, s.source())
		if line != 0 {
			continue
		}
		checked++
		code, _ := checkScopes(t, u)
		if again, line := impl.CheckUnit(impl.EraseUnitLines(u)); again != code || line != 0 {
			t.Fatalf("without lines CheckUnit(%s) is %d, %d and not %d", unitForm(u), again, line, code)
		}
	}
	if checked < 1500 {
		t.Errorf("%d units were checked", checked)
	}
}

func TestScopesOfLargeUnits(t *testing.T) {
	full := fullUnit()
	checkScopes(t, full)
	for i := range full.Records {
		full.Records[i].Name = fmt.Sprintf("r%d", i)
	}
	for i := range full.Globals {
		full.Globals[i] = fmt.Sprintf("g%d", i)
	}
	for i := range full.Procedures {
		p := &full.Procedures[i]
		p.Name, p.Locals = fmt.Sprintf("p%d", i), nil
		for k := range 8 {
			p.Locals = append(p.Locals, fmt.Sprintf("l%d", k))
		}
	}
	full.Procedures[11].Name, full.Procedures[11].Params = "main", nil
	if code, line := checkScopes(t, full); code != fine || line != 0 {
		t.Errorf("CheckUnit of a unit with the most declarations is %d, %d", code, line)
	}
	// The deepest node and the last one have the fault.
	deep := mainWith(chain(ruleOf(impl.ExprNot), 1, 0, 38, lined(5, treeOf(impl.ExprNext, ""))))
	if code, line := checkScopes(t, deep); code != wrongContext || line != 5 {
		t.Errorf("CheckUnit of the deepest fault is %d, %d", code, line)
	}
	long := blockOf()
	for range 24 {
		long.Kids = append(long.Kids, blockOf(slices.Repeat([]impl.Expr{nameOf("x")}, 23)...))
	}
	last := &long.Kids[23].Kids[22]
	*last = lined(6, treeOf(impl.ExprDefer, "seq"))
	if code, line := checkScopes(t, mainWith(long.Kids...)); code != wrongDefer || line != 6 {
		t.Errorf("CheckUnit of the last fault is %d, %d", code, line)
	}
}

func TestLocalNamesShareNoMemory(t *testing.T) {
	text := []byte("shared")
	name := unsafe.String(&text[0], len(text))
	for _, p := range []impl.Procedure{{Params: []string{name}, Body: blockOf()}, {Locals: []string{name}, Body: blockOf()}, {Body: blockOf(nameOf(name))}, {Body: blockOf(treeOf(impl.ExprDefer, name))}} {
		copy(text, "shared")
		p.Name = "main"
		names := impl.LocalNames(impl.Unit{Procedures: []impl.Procedure{p}}, 0)
		clear(text)
		if !slices.Equal(names, []string{"shared"}) {
			t.Errorf("the names %q share memory with the unit", names)
		}
	}
	// The memory behind the lists is not written, and two results share none.
	list := []string{"a", "b", "c", "spare", "spare"}
	u := impl.Unit{Procedures: []impl.Procedure{{Name: "main", Params: list[:2], Locals: list[2:3], Body: blockOf(nameOf("d"), nameOf("e"))}, {Name: "p", Params: list[:3], Locals: list[:0], Body: blockOf()}}}
	for procedure := range 2 {
		first, second := impl.LocalNames(u, procedure), impl.LocalNames(u, procedure)
		want := slices.Clone(second)
		for i := range first {
			first[i] = "other"
		}
		_ = append(first, "more")
		if !slices.Equal(second, want) || !slices.Equal(list, []string{"a", "b", "c", "spare", "spare"}) {
			t.Errorf("the names share memory: %v, %v", second, list)
		}
	}
	checkScopes(t, u)
}

func TestScopesKeepNoState(t *testing.T) {
	for range 3 {
		checkFault(t, "global g procedure main() local b; a := b + g; a := write end", fine, 0)
		checkFault(t, "procedure main(); local g; g.f end", wrongField, 1)
		checkFault(t, "record r(f) procedure main(); g.f end", fine, 0)
		checkFault(t, "global r\nprocedure g() end\nprocedure main()\nrepeat create break\nend", wrongContext, 4)
		checkFault(t, "procedure main() repeat break end", fine, 0)
		checkFault(t, "procedure g() end", noMain, 0)
		checkInvalid(t, impl.Unit{Globals: []string{"if"}})
		checkScopes(t, sampleUnit())
		if impl.FunctionName(20) != "find" || impl.FunctionNumber("find") != 20 || impl.FunctionName(55) != "" || impl.FunctionNumber("none") != -1 {
			t.Errorf("find is number %d", impl.FunctionNumber("find"))
		}
	}
}
