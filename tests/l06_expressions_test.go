package tests

import (
	"fmt"
	"math"
	"math/rand/v2"
	"reflect"
	"regexp"
	"slices"
	"strconv"
	"strings"
	"testing"
	"unsafe"

	"loop.example/g03106/impl"
)

const (
	maxNodes = 600
	maxDepth = 40
)

// The lists of chapter 6; the binary operators stand behind their levels.
const (
	levelList = `1 & 2 ? 3 := <- :=: <-> +:= -:= *:= /:= %:= ^:= ||:= |||:= ++:= --:= **:= 5 | .| 6 < <= = >= > ~= << <<= == >>= >> ~== === ~=== ?? 7 || ||| 8 + - ++ -- 9 * / % ** 10 ^ 11 \ -> =>`
	unaryList = `- + * / \ ~ ! = | @ ^ . .>`
)

// levels are the levels of the binary operators by the list.
func levels() map[string]int {
	all := map[string]int{}
	level := 0
	for _, word := range strings.Fields(levelList) {
		if n, err := strconv.Atoi(word); err == nil {
			level = n
		} else {
			all[word] = level
		}
	}
	return all
}

// exprRule is what chapter 6 says of one kind; Number is from 0 to greatest.
type exprRule struct {
	kind     int
	fewest   int
	most     int
	text     func(string) bool
	sample   string
	greatest int
}

// exprRules are the rules of all kinds, in the order of the kinds.
var exprRules = newExprRules()

func newExprRules() []exprRule {
	form := regexp.MustCompile(`\A[A-Za-z_][A-Za-z_0-9]{0,11}\z`)
	operators := levels()
	none := func(s string) bool { return s == "" }
	short := func(s string) bool { return len(s) <= 120 }
	name := func(s string) bool { return form.MatchString(s) && !listed(reservedList, s) }
	keyword := func(s string) bool { return listed(keywordList, s) }
	unary := func(s string) bool { return listed(unaryList, s) }
	binary := func(s string) bool { return operators[s] > 0 }
	return []exprRule{
		{impl.ExprInteger, 0, 0, none, "", 999999999999},
		{impl.ExprString, 0, 0, short, "a\x00\xff b", 0},
		{impl.ExprCset, 0, 0, isAscending, "abz", 0},
		{impl.ExprName, 0, 0, name, "x1", 0},
		{impl.ExprKeyword, 0, 0, keyword, "pos", 0},
		{impl.ExprList, 0, 8, none, "", 0},
		{impl.ExprUnary, 1, 1, unary, ".>", 0},
		{impl.ExprBinary, 2, 2, binary, "|||:=", 0},
		{impl.ExprTo, 2, 3, none, "", 0},
		{impl.ExprCall, 1, 9, none, "", 0},
		{impl.ExprIndex, 2, 2, none, "", 0},
		{impl.ExprSection, 3, 3, none, "", 0},
		{impl.ExprField, 1, 1, name, "left", 0},
		{impl.ExprBlock, 0, 24, none, "", 0},
		{impl.ExprIf, 2, 3, none, "", 0},
		{impl.ExprWhile, 1, 2, none, "", 0},
		{impl.ExprUntil, 1, 2, none, "", 0},
		{impl.ExprEvery, 1, 2, none, "", 0},
		{impl.ExprRepeat, 1, 1, none, "", 0},
		{impl.ExprCase, 1, 14, none, "", 1},
		{impl.ExprReturn, 0, 1, none, "", 0},
		{impl.ExprSuspend, 0, 2, none, "", 0},
		{impl.ExprFail, 0, 0, none, "", 0},
		{impl.ExprBreak, 0, 1, none, "", 0},
		{impl.ExprNext, 0, 0, none, "", 0},
		{impl.ExprCreate, 1, 1, none, "", 0},
		{impl.ExprNot, 1, 1, none, "", 0},
		{impl.ExprDefer, 0, 0, name, "later", 0},
		{impl.ExprMutual, 2, 8, none, "", 0},
	}
}

// ruleOf is the rule of one kind.
func ruleOf(kind int) exprRule {
	return exprRules[kind-1]
}

// isAscending reports whether s has bytes from 0 to 127, each greater than the one before.
func isAscending(s string) bool {
	for i := range len(s) {
		if s[i] > 127 || i > 0 && s[i] <= s[i-1] {
			return false
		}
	}
	return true
}

// countOf is CountNodes by definition.
func countOf(e impl.Expr) int {
	count := 1
	for _, kid := range e.Kids {
		count += countOf(kid)
	}
	return count
}

// depthOf is DepthOf by definition.
func depthOf(e impl.Expr) int {
	below := 0
	for _, kid := range e.Kids {
		below = max(below, depthOf(kid))
	}
	return 1 + below
}

// followRules reports whether every node follows the rule of its kind, and is in a line from 0.
func followRules(e impl.Expr) bool {
	if e.Kind < 1 || e.Kind > len(exprRules) || e.Line < 0 {
		return false
	}
	rule := ruleOf(e.Kind)
	if len(e.Kids) < rule.fewest || len(e.Kids) > rule.most || !rule.text(e.Text) || e.Number < 0 || e.Number > rule.greatest {
		return false
	}
	if e.Kind == 20 && len(e.Kids)%2 == e.Number {
		return false
	}
	return !slices.ContainsFunc(e.Kids, func(kid impl.Expr) bool { return !followRules(kid) })
}

// sameTrees is EqualExpr by definition.
func sameTrees(a impl.Expr, b impl.Expr) bool {
	return a.Kind == b.Kind && a.Text == b.Text && a.Number == b.Number && a.Line == b.Line && slices.EqualFunc(a.Kids, b.Kids, sameTrees)
}

// copiedTree is a tree with new memory everywhere.
func copiedTree(e impl.Expr) impl.Expr {
	e.Text = strings.Clone(e.Text)
	if e.Kids != nil {
		kids := make([]impl.Expr, len(e.Kids))
		for i := range kids {
			kids[i] = copiedTree(e.Kids[i])
		}
		e.Kids = kids
	}
	return e
}

// linelessTree is EraseLines by definition.
func linelessTree(e impl.Expr) impl.Expr {
	e = copiedTree(e)
	changeNodes(&e, func(node *impl.Expr) { node.Line = 0 })
	return e
}

// changeNodes applies a change to every node of a tree, to a node after its kids.
func changeNodes(e *impl.Expr, change func(node *impl.Expr)) {
	for i := range e.Kids {
		changeNodes(&e.Kids[i], change)
	}
	change(e)
}

// leafNode is one of a few valid nodes without kids.
func leafNode(i int) impl.Expr {
	leaves := []impl.Expr{
		{Kind: impl.ExprName, Text: "x", Line: 3}, {Kind: impl.ExprInteger, Number: 7, Line: 4}, {Kind: impl.ExprString, Text: "text", Line: 1}, {Kind: impl.ExprFail}, {Kind: impl.ExprList, Line: 9, Kids: []impl.Expr{}},
	}
	return copiedTree(leaves[i%len(leaves)])
}

// nodeWith is a node of a kind with some leaves as its kids; it is valid if the kind allows as many.
func nodeWith(rule exprRule, kids int) impl.Expr {
	node := impl.Expr{Kind: rule.kind, Text: rule.sample, Line: 5}
	for i := range kids {
		node.Kids = append(node.Kids, leafNode(i))
	}
	if rule.kind == impl.ExprCase && kids%2 == 0 {
		node.Number = 1
	}
	return node
}

// chain is a tree in which e is the kid with an index of the last of some nodes of a kind.
func chain(rule exprRule, kids int, index int, length int, e impl.Expr) impl.Expr {
	for range length {
		node := nodeWith(rule, kids)
		node.Kids[index] = e
		e = node
	}
	return e
}

// inPlaces are trees that contain e: alone, as each kid of each kind, and deep; a valid e of depth at most 10 makes them valid.
func inPlaces(e impl.Expr) []impl.Expr {
	trees := []impl.Expr{e}
	for _, rule := range exprRules {
		for i := range rule.most {
			trees = append(trees, chain(rule, rule.most, i, 1, e))
		}
		if kids := max(1, rule.fewest); kids <= rule.most {
			trees = append(trees, chain(rule, kids, 0, 30, e), chain(rule, kids, kids-1, 30, e))
		}
	}
	return trees
}

// checkTree compares the functions of one tree with their definitions, and expects them to leave the tree as it was.
func checkTree(t *testing.T, e impl.Expr, valid bool) {
	t.Helper()
	before := copiedTree(e)
	if got := impl.IsValidExpr(e); got != valid {
		t.Fatalf("IsValidExpr(%.500s) = %v", fmt.Sprint(e), got)
	}
	if got, want := impl.CountNodes(e), countOf(e); got != want {
		t.Fatalf("CountNodes(%.500s) = %d, want %d", fmt.Sprint(e), got, want)
	}
	if got, want := impl.DepthOf(e), depthOf(e); got != want {
		t.Fatalf("DepthOf(%.500s) = %d, want %d", fmt.Sprint(e), got, want)
	}
	if !impl.EqualExpr(e, before) || !impl.EqualExpr(before, e) || !impl.EqualExpr(e, e) {
		t.Fatalf("EqualExpr(%.500s, the same) is false", fmt.Sprint(e))
	}
	erased := impl.EraseLines(e)
	if !sameTrees(erased, linelessTree(before)) {
		t.Fatalf("EraseLines(%.500s) = %.500s", fmt.Sprint(e), fmt.Sprint(erased))
	}
	if twice := impl.EraseLines(erased); !sameTrees(twice, erased) || valid && !impl.IsValidExpr(erased) {
		t.Fatalf("EraseLines(%.500s) = %.500s, and erased again %.500s", fmt.Sprint(e), fmt.Sprint(erased), fmt.Sprint(twice))
	}
	if !reflect.DeepEqual(e, before) {
		t.Fatalf("%.500s was changed to %.500s", fmt.Sprint(before), fmt.Sprint(e))
	}
}

func TestExpressionConstants(t *testing.T) {
	if impl.MaxNodes != maxNodes || impl.MaxDepth != maxDepth {
		t.Errorf("MaxNodes is %d, MaxDepth is %d", impl.MaxNodes, impl.MaxDepth)
	}
	for i, rule := range exprRules {
		if rule.kind != i+1 {
			t.Errorf("the kind with the number %d has the value %d", i+1, rule.kind)
		}
	}
	if len(exprRules) != 29 {
		t.Errorf("%d kinds", len(exprRules))
	}
}

func TestOperatorsOfExpressions(t *testing.T) {
	byList := levels()
	texts := nearWords(wordsOf(operatorList, reservedList, levelList, unaryList, "and or xor mod div <> != && ^^ ** // := =: \\\\ .. ... >. ~ not to by"))
	texts = append(texts, textsOver(`:=<->|+*/%^~?.\&!@`, 3)...)
	texts = append(texts, textsOver(`:=|+<>~`, 5)...)
	texts = append(texts, "", " ", "\n", "\x00", "\xff", levelList, unaryList, strings.Repeat("|", 100000))
	met, metUnary := map[string]bool{}, map[string]bool{}
	for _, s := range texts {
		if got := impl.BinaryLevel(s); got != byList[s] {
			t.Errorf("BinaryLevel(%.80q) = %d, want %d", s, got, byList[s])
		}
		if got := impl.IsUnaryOperator(s); got != listed(unaryList, s) {
			t.Errorf("IsUnaryOperator(%.80q) = %v", s, got)
		}
		if byList[s] > 0 {
			met[s] = true
		}
		if listed(unaryList, s) {
			metUnary[s] = true
		}
	}
	if len(met) != 48 || len(metUnary) != 13 {
		t.Errorf("%d binary and %d unary operators were met", len(met), len(metUnary))
	}
}

// wholeProgram is a body in which every kind occurs.
func wholeProgram() impl.Expr {
	leaf := func(kind int, text string, line int) impl.Expr { return impl.Expr{Kind: kind, Text: text, Line: line} }
	node := func(kind int, text string, line int, kids ...impl.Expr) impl.Expr {
		return impl.Expr{Kind: kind, Text: text, Line: line, Kids: kids}
	}
	x := leaf(impl.ExprName, "x", 2)
	one := impl.Expr{Kind: impl.ExprInteger, Number: 1, Line: 2}
	list := node(impl.ExprList, "", 3, one, leaf(impl.ExprString, "a\n", 3), leaf(impl.ExprCset, "ab", 4), leaf(impl.ExprKeyword, "null", 0))
	loop := node(impl.ExprEvery, "", 5, node(impl.ExprBinary, ":=", 5, x, node(impl.ExprTo, "", 5, one, x, one)), node(impl.ExprBlock, "", 6))
	choice := impl.Expr{Kind: impl.ExprCase, Number: 1, Line: 7, Kids: []impl.Expr{x, one, node(impl.ExprBreak, "", 8), leaf(impl.ExprNext, "", 9)}}
	call := node(impl.ExprCall, "", 10, leaf(impl.ExprName, "write", 10), node(impl.ExprIndex, "", 10, x, one), node(impl.ExprSection, "", 10, x, one, node(impl.ExprUnary, "-", 10, one)))
	return node(impl.ExprBlock, "", 1,
		list, loop, choice, call,
		node(impl.ExprIf, "", 11, node(impl.ExprField, "size", 11, x), node(impl.ExprReturn, "", 11)),
		node(impl.ExprWhile, "", 12, node(impl.ExprNot, "", 12, x)),
		node(impl.ExprUntil, "", 13, x, node(impl.ExprSuspend, "", 13, x, one)),
		node(impl.ExprRepeat, "", 14, node(impl.ExprCreate, "", 14, leaf(impl.ExprFail, "", 14))),
		node(impl.ExprMutual, "", 15, leaf(impl.ExprDefer, "x", 15), one))
}

func TestOrdinaryTrees(t *testing.T) {
	tree := wholeProgram()
	met := map[int]bool{}
	changeNodes(&tree, func(node *impl.Expr) { met[node.Kind] = true })
	if len(met) != 29 {
		t.Fatalf("the tree has %d kinds", len(met))
	}
	if impl.CountNodes(tree) != 1+5+8+5+10+4+3+5+3+3 || impl.DepthOf(tree) != 5 {
		t.Errorf("the tree has %d nodes and depth %d", impl.CountNodes(tree), impl.DepthOf(tree))
	}
	for _, place := range inPlaces(tree) {
		checkTree(t, place, true)
	}
	leaf := impl.Expr{Kind: impl.ExprNext, Line: 8}
	if impl.CountNodes(leaf) != 1 || impl.DepthOf(leaf) != 1 {
		t.Errorf("a leaf has %d nodes and depth %d", impl.CountNodes(leaf), impl.DepthOf(leaf))
	}
	// The longest path is not that of the last kid, nor that of the kid with most nodes.
	wide := impl.Expr{Kind: impl.ExprList, Kids: []impl.Expr{chain(ruleOf(impl.ExprNot), 1, 0, 4, leaf), nodeWith(ruleOf(impl.ExprBlock), 24), leaf}}
	if impl.CountNodes(wide) != 1+5+25+1 || impl.DepthOf(wide) != 6 {
		t.Errorf("the wide tree has %d nodes and depth %d", impl.CountNodes(wide), impl.DepthOf(wide))
	}
}

func TestNumbersOfKids(t *testing.T) {
	for _, rule := range exprRules {
		for kids := range rule.most + 4 {
			for _, place := range inPlaces(nodeWith(rule, kids)) {
				checkTree(t, place, rule.fewest <= kids && kids <= rule.most)
			}
		}
		for _, kids := range []int{30, 64, 256, 256 + rule.most, 1000} {
			checkTree(t, nodeWith(rule, kids), false)
		}
	}
}

func TestKindsWithOptionalKids(t *testing.T) {
	accepted := map[int][]int{
		impl.ExprTo: {2, 3}, impl.ExprIf: {2, 3}, impl.ExprWhile: {1, 2}, impl.ExprUntil: {1, 2}, impl.ExprEvery: {1, 2},
		impl.ExprReturn: {0, 1}, impl.ExprBreak: {0, 1}, impl.ExprSuspend: {0, 1, 2},
	}
	x := impl.Expr{Kind: impl.ExprName, Text: "x"}
	for kind, counts := range accepted {
		for kids := range 6 {
			checkTree(t, impl.Expr{Kind: kind, Kids: slices.Repeat([]impl.Expr{x}, kids)}, slices.Contains(counts, kids))
		}
	}
	for _, number := range append(extremeInts(), -3, -2, -1, 0, 1, 2, 3) {
		for kids := range 18 {
			node := impl.Expr{Kind: impl.ExprCase, Number: number, Kids: slices.Repeat([]impl.Expr{x}, kids)}
			// The selector and the pairs, or the selector, the pairs and the default.
			valid := number == 0 && slices.Contains([]int{1, 3, 5, 7, 9, 11, 13}, kids) || number == 1 && slices.Contains([]int{2, 4, 6, 8, 10, 12, 14}, kids)
			for _, place := range inPlaces(node) {
				checkTree(t, place, valid)
			}
		}
	}
}

// faultyNodes are nodes of a kind that break one rule each, none of those about the number of kids.
func faultyNodes(rule exprRule) []impl.Expr {
	good := nodeWith(rule, rule.most)
	var list []impl.Expr
	for _, line := range []int{-1, -2, math.MinInt} {
		bad := copiedTree(good)
		bad.Line = line
		list = append(list, bad)
	}
	for _, number := range append(extremeInts(), -2, -1, 1, 2, 3, 999999999999, 1000000000000, -999999999999) {
		for _, kids := range []int{rule.most, max(rule.fewest, rule.most-1)} {
			bad := nodeWith(rule, kids)
			bad.Number = number
			if number < 0 || number > rule.greatest {
				list = append(list, bad)
			}
		}
	}
	for _, text := range []string{"", "x", "x1", " ", "\x00", "if", "null", "+", "-", "&", "to", "=", "ba", "aa", "a\x80", strings.Repeat("a", 121)} {
		bad := copiedTree(good)
		bad.Text = text
		if !rule.text(text) {
			list = append(list, bad)
		}
	}
	for _, kind := range []int{0, 30, 31, 58, -1, -rule.kind, 256 + rule.kind, 1<<32 + rule.kind, math.MinInt, math.MaxInt} {
		bad := copiedTree(good)
		bad.Kind = kind
		list = append(list, bad)
	}
	return list
}

func TestFaultsAtTheRootAndDeep(t *testing.T) {
	checked, accepted := 0, 0
	for _, rule := range exprRules {
		for _, line := range []int{0, 1, maxSource, math.MaxInt} {
			good := nodeWith(rule, rule.most)
			good.Line = line
			for _, place := range inPlaces(good) {
				checkTree(t, place, true)
			}
		}
		for _, bad := range faultyNodes(rule) {
			for i, place := range inPlaces(bad) {
				checked++
				if impl.IsValidExpr(place) {
					accepted++
				}
				// The other functions are defined for these trees too; some of the places will do.
				if i%10 == 0 {
					checkTree(t, place, false)
				}
			}
		}
	}
	if checked < 100000 || accepted > 0 {
		t.Errorf("%d of %d faulty trees are accepted", accepted, checked)
	}
	for _, kind := range []int{0, 30, -1, math.MinInt, math.MaxInt} {
		checkTree(t, impl.Expr{Kind: kind}, false)
		checkTree(t, impl.Expr{Kind: kind, Text: "x", Number: 1, Kids: []impl.Expr{{}}}, false)
	}
}

func TestTextsOfExpressions(t *testing.T) {
	texts := nearWords(wordsOf(reservedList, keywordList, operatorList, "x abcdefghijkl abcdefghijklm _ a1 1a 12 007"))
	texts = append(texts, textsOver("aZ_9 .\x80", 3)...)
	for b := range 256 {
		for c := range 256 {
			texts = append(texts, bytesOf(byte(b))+bytesOf(byte(c)))
		}
		texts = append(texts, bytesOf(byte(b)), "ab"+bytesOf(byte(b)), bytesOf(byte(b))+"ab")
	}
	for _, size := range []int{0, 1, 2, 12, 13, 59, 60, 61, 119, 120, 121, 122, 127, 128, 129, 240, 256, 376, 10000} {
		texts = append(texts, strings.Repeat("a", size), strings.Repeat("\xff", size), strings.Repeat("\u00e9", size), patternText(size))
	}
	all := everyByte()
	texts = append(texts, all[:128], all[:129], all[1:128], all[64:128], all[:127]+"\x7f\x7f", all[:128]+all[:128], "\x00"+all[:128], all[128:], all, "\x7f", "\x80", "a\x7f", "a\x80", "\x7f\x80", "abc", "acb", "aab", "abb", "cba", "aba", "  ", "az", "za")
	for _, rule := range exprRules {
		for _, text := range texts {
			node := nodeWith(rule, rule.most)
			node.Text = text
			if got := impl.IsValidExpr(node); got != rule.text(text) {
				t.Errorf("IsValidExpr of a node of the kind %d with the text %.80q is %v", rule.kind, text, got)
			}
		}
	}
}

func TestNumbersOfExpressions(t *testing.T) {
	numbers := append(integersOfAllSizes(), extremeInts()...)
	numbers = append(numbers, -2, -1, 0, 1, 2, 999999999998, 999999999999, 1000000000000, 1000000000001, -999999999999, 1<<32, 1<<39, 1<<40)
	for _, rule := range exprRules {
		for _, number := range numbers {
			node := nodeWith(rule, rule.most)
			node.Number = number
			valid := rule.kind == impl.ExprInteger && number >= 0 && number <= 999999999999 || number == 0 && rule.kind != impl.ExprCase || number == 1 && rule.kind == impl.ExprCase
			if got := impl.IsValidExpr(node); got != valid {
				t.Errorf("IsValidExpr of a node of the kind %d with the number %d is %v", rule.kind, number, got)
			}
		}
	}
}

// shapedTree is a tree with some nodes and depth: blocks below each other, each the kid of the last one with the given index, if there are as many kids, and filled with leaves from the first one or from the last one on.
func shapedTree(nodes int, depth int, index int, fromFirst bool) impl.Expr {
	spare := nodes - depth
	fill := make([]int, depth-1)
	for i := range fill {
		fill[i] = min(spare, 23)
		spare -= fill[i]
	}
	if !fromFirst {
		slices.Reverse(fill)
	}
	tree := leafNode(0)
	for _, leaves := range fill {
		kids := make([]impl.Expr, 0, leaves+1)
		for i := range leaves {
			kids = append(kids, leafNode(i))
		}
		tree = impl.Expr{Kind: impl.ExprBlock, Line: 2, Kids: slices.Insert(kids, min(index, leaves), tree)}
	}
	return tree
}

func TestLimitsOfTrees(t *testing.T) {
	for depth := 27; depth <= 45; depth++ {
		for _, nodes := range []int{depth, depth + 1, 200, 511, 512, 599, 600, 601, 602} {
			for _, index := range []int{0, 1, 12, 23} {
				for _, fromFirst := range []bool{true, false} {
					tree := shapedTree(nodes, depth, index, fromFirst)
					if countOf(tree) != nodes || depthOf(tree) != depth {
						t.Fatalf("the tree of %d nodes and depth %d has %d and %d", nodes, depth, countOf(tree), depthOf(tree))
					}
					checkTree(t, tree, nodes <= 600 && depth <= 40)
				}
			}
		}
	}
	// The most kids at three levels: 1 + 24 + 576 nodes, and fewer.
	wide := impl.Expr{Kind: impl.ExprBlock}
	for range 24 {
		wide.Kids = append(wide.Kids, nodeWith(ruleOf(impl.ExprBlock), 24))
	}
	checkTree(t, wide, false)
	for _, i := range []int{0, 11, 23} {
		fewer := copiedTree(wide)
		fewer.Kids[i].Kids = fewer.Kids[i].Kids[:23]
		checkTree(t, fewer, true)
	}
	checkTree(t, impl.Expr{Kind: impl.ExprNot, Kids: []impl.Expr{shapedTree(599, 39, 3, true)}}, true)
	checkTree(t, impl.Expr{Kind: impl.ExprNot, Kids: []impl.Expr{shapedTree(600, 39, 3, true)}}, false)
	checkTree(t, impl.Expr{Kind: impl.ExprNot, Kids: []impl.Expr{shapedTree(599, 40, 3, true)}}, false)
}

func TestDepthLimitOfEveryKind(t *testing.T) {
	for _, rule := range exprRules {
		for kids := max(1, rule.fewest); kids <= min(rule.most, 9); kids++ {
			for index := range kids {
				for depth := 37; depth <= 43; depth++ {
					checkTree(t, chain(rule, kids, index, depth-1, leafNode(0)), depth <= 40 && depth+(depth-1)*(kids-1) <= 600)
				}
			}
		}
	}
}

// randomTree is a tree of at most some depth that is mostly valid.
func randomTree(random *rand.Rand, depth int) impl.Expr {
	rule := exprRules[random.IntN(len(exprRules))]
	for depth == 1 && rule.fewest > 0 {
		rule = exprRules[random.IntN(len(exprRules))]
	}
	node := impl.Expr{Kind: rule.kind, Text: rule.sample, Line: random.IntN(4)}
	if depth > 1 {
		for range rule.fewest + random.IntN(min(rule.most-rule.fewest, 3)+1) {
			node.Kids = append(node.Kids, randomTree(random, depth-1))
		}
	}
	if rule.kind == impl.ExprCase {
		node.Number = (len(node.Kids) + 1) % 2
	}
	return node
}

// spoil makes one random change to one random node, which may leave the tree valid.
func spoil(random *rand.Rand, e *impl.Expr) {
	var nodes []*impl.Expr
	changeNodes(e, func(node *impl.Expr) { nodes = append(nodes, node) })
	node := nodes[random.IntN(len(nodes))]
	texts := []string{"", "x", "+", "&", "null", "if", "ab", "ba", "a\x80"}
	switch random.IntN(6) {
	case 0:
		node.Kind = random.IntN(32) - 1
	case 1:
		node.Text = texts[random.IntN(len(texts))]
	case 2:
		node.Number = random.IntN(4) - 1
	case 3:
		node.Line = random.IntN(4) - 1
	case 4:
		node.Kids = append(slices.Clone(node.Kids), leafNode(random.IntN(5)))
	default:
		node.Kids = node.Kids[:max(0, len(node.Kids)-1)]
	}
}

func TestRandomTreesByRules(t *testing.T) {
	random := rand.New(rand.NewPCG(6, 6))
	valid, invalid := 0, 0
	for i := range 20000 {
		tree := randomTree(random, 1+i%7)
		for range random.IntN(3) {
			spoil(random, &tree)
		}
		want := followRules(tree) && countOf(tree) <= 600 && depthOf(tree) <= 40
		checkTree(t, tree, want)
		if want {
			valid++
		} else {
			invalid++
		}
	}
	if valid < 4000 || invalid < 4000 {
		t.Errorf("%d of the trees are valid and %d are not", valid, invalid)
	}
}

// withOneChange are trees that differ from a tree in one field of one node, or in the number or order of the kids of one node.
func withOneChange(tree impl.Expr) []impl.Expr {
	changes := []func(node *impl.Expr){
		func(node *impl.Expr) { node.Kind++ },
		func(node *impl.Expr) { node.Kind = -node.Kind - 1 },
		func(node *impl.Expr) { node.Kind += 1 << 40 },
		func(node *impl.Expr) { node.Text += "x" },
		func(node *impl.Expr) { node.Text += "\x00" },
		func(node *impl.Expr) { node.Text = "other" },
		func(node *impl.Expr) { node.Number++ },
		func(node *impl.Expr) { node.Number -= 1 << 33 },
		func(node *impl.Expr) { node.Line++ },
		func(node *impl.Expr) { node.Line = -node.Line - 1 },
		func(node *impl.Expr) { node.Kids = append(node.Kids, impl.Expr{}) },
		func(node *impl.Expr) { node.Kids = append(node.Kids, leafNode(0)) },
		func(node *impl.Expr) { node.Kids = slices.Insert(node.Kids, 0, leafNode(1)) },
		func(node *impl.Expr) { node.Kids = node.Kids[:max(0, len(node.Kids)-1)] },
		func(node *impl.Expr) { node.Kids = node.Kids[min(1, len(node.Kids)):] },
		func(node *impl.Expr) { node.Kids = nil },
		func(node *impl.Expr) { slices.Reverse(node.Kids) },
	}
	var list []impl.Expr
	for at := range countOf(tree) {
		for _, change := range changes {
			changed := copiedTree(tree)
			number := 0
			changeNodes(&changed, func(node *impl.Expr) {
				if number == at {
					change(node)
				}
				number++
			})
			list = append(list, changed)
		}
	}
	return list
}

func TestEqualExprSeesOneChange(t *testing.T) {
	random := rand.New(rand.NewPCG(6, 7))
	trees := []impl.Expr{{}, {Kind: -3, Line: -1, Kids: []impl.Expr{{}}}, leafNode(0), nodeWith(ruleOf(impl.ExprSection), 3), wholeProgram(), shapedTree(60, 30, 0, true), shapedTree(60, 30, 23, false)}
	for range 20 {
		trees = append(trees, randomTree(random, 5))
	}
	differ := 0
	for _, tree := range trees {
		for _, changed := range withOneChange(tree) {
			want := sameTrees(tree, changed)
			if got, back := impl.EqualExpr(tree, changed), impl.EqualExpr(changed, tree); got != want || back != want {
				t.Fatalf("EqualExpr(%.500s, %.500s) = %v, and %v with the arguments exchanged", fmt.Sprint(tree), fmt.Sprint(changed), got, back)
			}
			if !want {
				differ++
			}
			checkTree(t, changed, followRules(changed))
		}
	}
	if differ < 3000 {
		t.Errorf("only %d of the changes matter", differ)
	}
}

func TestEqualExprOfAllPairs(t *testing.T) {
	var trees []impl.Expr
	for _, rule := range exprRules {
		trees = append(trees, nodeWith(rule, rule.fewest), nodeWith(rule, rule.most), nodeWith(rule, rule.most+1), chain(ruleOf(impl.ExprNot), 1, 0, 2, nodeWith(rule, rule.most)))
	}
	for _, a := range trees {
		for _, b := range trees {
			if got := impl.EqualExpr(a, b); got != sameTrees(a, b) {
				t.Errorf("EqualExpr(%v, %v) = %v", a, b, got)
			}
			if got := impl.EqualExpr(impl.EraseLines(a), impl.EraseLines(b)); got != sameTrees(linelessTree(a), linelessTree(b)) {
				t.Errorf("EqualExpr(%v, %v) without lines is %v", a, b, got)
			}
		}
	}
}

func TestNilAndEmptyKids(t *testing.T) {
	for _, rule := range exprRules {
		without, empty := nodeWith(rule, 0), nodeWith(rule, 0)
		without.Kids, empty.Kids = nil, []impl.Expr{}
		places, others := inPlaces(without), inPlaces(empty)
		for i := range places {
			valid := rule.fewest == 0
			checkTree(t, places[i], valid)
			checkTree(t, others[i], valid)
			if !impl.EqualExpr(places[i], others[i]) || !impl.EqualExpr(others[i], places[i]) || !impl.EqualExpr(impl.EraseLines(places[i]), impl.EraseLines(others[i])) {
				t.Errorf("nil and empty kids differ in a node of the kind %d", rule.kind)
			}
		}
	}
}

// Written out, with lines of every sort.
func TestEraseLines(t *testing.T) {
	tree := impl.Expr{Kind: impl.ExprBinary, Text: "^", Line: 3, Kids: []impl.Expr{
		{Kind: impl.ExprName, Text: "a", Line: math.MaxInt},
		{Kind: impl.ExprList, Line: -1, Kids: []impl.Expr{{Kind: impl.ExprInteger, Number: 3}, {Kind: 77, Text: "\xff", Number: -5, Line: math.MinInt}}},
	}}
	want := impl.Expr{Kind: impl.ExprBinary, Text: "^", Kids: []impl.Expr{
		{Kind: impl.ExprName, Text: "a"},
		{Kind: impl.ExprList, Kids: []impl.Expr{{Kind: impl.ExprInteger, Number: 3}, {Kind: 77, Text: "\xff", Number: -5}}},
	}}
	if got := impl.EraseLines(tree); !sameTrees(got, want) {
		t.Errorf("EraseLines(%v) = %v", tree, got)
	}
	if tree.Line != 3 || tree.Kids[0].Line != math.MaxInt || tree.Kids[1].Line != -1 || tree.Kids[1].Kids[1].Line != math.MinInt {
		t.Errorf("EraseLines changed its argument to %v", tree)
	}
	if impl.EqualExpr(tree, want) || !impl.EqualExpr(impl.EraseLines(want), want) {
		t.Errorf("EqualExpr(%v, %v) is true, or erasing again changes the tree", tree, want)
	}
}

// overwrite changes every field of every node, and the memory behind the kids too.
func overwrite(e *impl.Expr) {
	changeNodes(e, func(node *impl.Expr) {
		other := impl.Expr{Kind: -1, Text: "other", Number: -1, Line: -1}
		spare := node.Kids[:cap(node.Kids)]
		for i := range spare {
			spare[i] = other
		}
		node.Kind, node.Text, node.Number, node.Line = -1, "other", -1, -1
	})
}

func TestErasedTreesShareNoMemory(t *testing.T) {
	for _, place := range inPlaces(wholeProgram()) {
		before, want := copiedTree(place), linelessTree(place)
		first, second := impl.EraseLines(place), impl.EraseLines(place)
		overwrite(&first)
		if !reflect.DeepEqual(place, before) || !sameTrees(second, want) {
			t.Fatalf("the erased tree of %.500s shares memory with it or with another result", fmt.Sprint(before))
		}
		overwrite(&place)
		if !sameTrees(second, want) {
			t.Fatalf("the erased tree of %.500s shares memory with it", fmt.Sprint(before))
		}
	}
	// The kids of two nodes of the argument are the same memory, with some to spare.
	kids := []impl.Expr{{Kind: 1, Line: 1}, {Kind: 2, Text: "a", Line: 2}, {Kind: 77, Text: "spare", Line: 77}}
	tree := impl.Expr{Kind: impl.ExprList, Kids: []impl.Expr{{Kind: impl.ExprList, Kids: kids[:2]}, {Kind: impl.ExprList, Kids: kids[:2]}, {Kind: impl.ExprList, Kids: kids[1:1]}}}
	want := linelessTree(tree)
	erased := impl.EraseLines(tree)
	overwrite(&erased.Kids[0])
	erased.Kids[2].Kids = append(erased.Kids[2].Kids, leafNode(0))
	erased.Kids[1].Kids = append(erased.Kids[1].Kids, leafNode(0))
	if !sameTrees(impl.EraseLines(tree), want) || kids[1].Line != 2 || kids[2].Text != "spare" || kids[2].Line != 77 {
		t.Errorf("a change to the erased tree changes its argument: %v", kids)
	}
	if len(erased.Kids[1].Kids) != 3 || !slices.EqualFunc(erased.Kids[1].Kids[:2], want.Kids[1].Kids, sameTrees) {
		t.Errorf("two slices of one erased tree share memory: %v", erased)
	}
}

// The bytes of the argument are changed after the call: a text that shares them would change too.
func TestErasedTextsShareNoMemory(t *testing.T) {
	text := []byte("shared")
	leaf := impl.Expr{Kind: impl.ExprString, Text: unsafe.String(&text[0], len(text)), Line: 1}
	tree := chain(ruleOf(impl.ExprList), 2, 1, 3, leaf)
	tree.Text = leaf.Text
	erased := impl.EraseLines(tree)
	clear(text)
	if erased.Text != "shared" || erased.Kids[1].Kids[1].Kids[1].Text != "shared" {
		t.Errorf("the texts share memory with the argument: %v", erased)
	}
}

// The memory behind the kids is not read as a part of the tree, nor written.
func TestSpareKids(t *testing.T) {
	kids := []impl.Expr{leafNode(0), leafNode(1), {Kind: -1, Text: "spare", Line: -1}}
	before := slices.Clone(kids)
	tree := impl.Expr{Kind: impl.ExprList, Kids: kids[:2]}
	if !impl.IsValidExpr(tree) || impl.CountNodes(tree) != 3 || impl.DepthOf(tree) != 2 || !impl.EqualExpr(tree, nodeListOf(kids[0], kids[1])) || impl.CountNodes(impl.EraseLines(tree)) != 3 {
		t.Error("the memory behind the kids counts")
	}
	if !reflect.DeepEqual(kids, before) {
		t.Errorf("the memory behind the kids was changed: %v", kids)
	}
}

// nodeListOf is a list without a line.
func nodeListOf(kids ...impl.Expr) impl.Expr {
	return impl.Expr{Kind: impl.ExprList, Kids: kids}
}

func TestTreesFarBeyondTheLimits(t *testing.T) {
	deep := chain(ruleOf(impl.ExprNot), 1, 0, 60000, leafNode(0))
	wide := impl.Expr{Kind: impl.ExprBlock, Line: 2, Kids: slices.Repeat([]impl.Expr{leafNode(0)}, 300000)}
	odd := impl.Expr{Kind: 1000, Text: strings.Repeat("x", 1000000), Number: math.MinInt, Line: math.MinInt, Kids: []impl.Expr{wide, deep, wide}}
	for _, tree := range []impl.Expr{deep, wide, odd} {
		checkTree(t, tree, false)
	}
	if impl.CountNodes(odd) != 1+300001+60001+300001 || impl.DepthOf(odd) != 60002 {
		t.Errorf("the tree has %d nodes and depth %d", impl.CountNodes(odd), impl.DepthOf(odd))
	}
	other := chain(ruleOf(impl.ExprNot), 1, 0, 60000, leafNode(1))
	if impl.EqualExpr(deep, other) {
		t.Error("two trees that differ in their deepest node are equal")
	}
	// Nodes with the same kids are told apart as nodes; 2^60 of them are not counted one by one.
	tree := leafNode(0)
	for range 16 {
		tree = impl.Expr{Kind: impl.ExprList, Kids: slices.Repeat([]impl.Expr{tree}, 2)}
	}
	checkTree(t, tree, false)
	if impl.CountNodes(tree) != 1<<17-1 || impl.DepthOf(tree) != 17 {
		t.Errorf("the tree has %d nodes and depth %d", impl.CountNodes(tree), impl.DepthOf(tree))
	}
	for range 22 {
		tree = impl.Expr{Kind: impl.ExprList, Kids: slices.Repeat([]impl.Expr{tree}, 8)}
	}
	if impl.IsValidExpr(tree) {
		t.Error("a tree of more than 2^60 nodes is valid")
	}
}

func TestExpressionFunctionsKeepNoState(t *testing.T) {
	good, bad := wholeProgram(), impl.Expr{Kind: 30, Line: 3}
	for range 3 {
		checkTree(t, good, true)
		checkTree(t, bad, false)
		checkTree(t, shapedTree(601, 39, 0, true), false)
		checkTree(t, leafNode(0), true)
		if impl.BinaryLevel("^") != 10 || impl.BinaryLevel("to") != 0 || !impl.IsUnaryOperator("-") || impl.IsUnaryOperator("&") || impl.EqualExpr(good, bad) {
			t.Error("a function depends on earlier calls")
		}
	}
}
