package expr_test

import (
	"math"
	"math/big"
	"slices"
	"strings"
	"testing"

	"coxless/api"
	"coxless/arrange"
	"coxless/expr"
	"coxless/lex"
)

// A source form is written here with one byte a token: 1 is a number, a and b are names, + - * ( ) are themselves; all others are tokens with which nothing continues.

// coded are the tokens of a source form so written: each number is told by its place.
func coded(s string) []lex.Token {
	var l []lex.Token
	for i := range len(s) {
		k := lex.Token{Kind: lex.KSign, Text: s[i : i+1], Line: 1, Col: i + 1}
		switch s[i] {
		case '1':
			k.Kind, k.V = lex.KNumber, int64(i)
		case 'a', 'b':
			k.Kind = lex.KName
		case '<':
			k.Kind, k.V = lex.KNumber, -1
		case '>':
			k.Kind, k.V = lex.KNumber, most+1
		case '_':
			k.Kind, k.Text = lex.KName, ""
		case '|':
			k.Kind, k.Text = lex.KEnd, ""
		}
		l = append(l, k)
	}
	return l
}

// tree is a source form as it is read: an atom, or what one or two parts make.
type tree struct {
	kind uint8
	at   int
	name string
	a, b *tree
}

func endsFactor(c byte) bool { return strings.IndexByte("1ab)", c) >= 0 }

// lastBetween is the place of the last of these signs that stands between two parts and in no parentheses, or -1.
func lastBetween(s, signs string) int {
	last, depth := -1, 0
	for i := range len(s) {
		switch {
		case s[i] == '(':
			depth++
		case s[i] == ')':
			depth--
		case depth == 0 && i > 0 && endsFactor(s[i-1]) && strings.IndexByte(signs, s[i]) >= 0:
			last = i
		}
	}
	return last
}

// treeOf takes a source form, which begins at that place, apart from its last sign on; it is nil if it is none.
func treeOf(s string, from int) *tree {
	at := lastBetween(s, "+-")
	if at < 0 {
		at = lastBetween(s, "*")
	}
	switch {
	case at >= 0:
		a, b := treeOf(s[:at], from), treeOf(s[at+1:], from+at+1)
		if a == nil || b == nil {
			return nil
		}
		return &tree{kind: map[byte]uint8{'+': 3, '-': 4, '*': 5}[s[at]], a: a, b: b}
	case s == "1":
		return &tree{kind: 1, at: from}
	case s == "a" || s == "b":
		return &tree{kind: 2, name: s}
	case len(s) > 1 && s[0] == '-':
		if a := treeOf(s[1:], from+1); a != nil {
			return &tree{kind: 6, a: a}
		}
	case len(s) > 1 && s[0] == '(' && s[len(s)-1] == ')':
		return treeOf(s[1:len(s)-1], from+1)
	}
	return nil
}

// terms adds those of a tree to e: first those of A, then those of B, then its own.
func (x *tree) terms(e []api.Term) []api.Term {
	term := api.Term{Kind: x.kind, V: int64(x.at), Name: x.name}
	if x.a != nil {
		e = x.a.terms(e)
		term.A = len(e) - 1
	}
	if x.b != nil {
		e = x.b.terms(e)
		term.B = len(e) - 1
	}
	return append(e, term)
}

// value is that of a tree: a is 3, b is -7.
func (x *tree) value() *big.Int {
	v := new(big.Int)
	switch x.kind {
	case 1:
		return v.SetInt64(int64(x.at))
	case 2:
		return v.SetInt64(map[string]int64{"a": 3, "b": -7}[x.name])
	case 3:
		return v.Add(x.a.value(), x.b.value())
	case 4:
		return v.Sub(x.a.value(), x.b.value())
	case 5:
		return v.Mul(x.a.value(), x.b.value())
	}
	return v.Neg(x.a.value())
}

// names adds those of a tree that are not among l, in the order of the text.
func (x *tree) names(l []string) []string {
	if x.kind == 2 && !slices.Contains(l, x.name) {
		l = append(l, x.name)
	}
	if x.a != nil {
		l = x.a.names(l)
	}
	if x.b != nil {
		l = x.b.names(l)
	}
	return l
}

// continues reports whether s with something behind it is a source form: with what it waits for, and each ( closed.
func continues(s string) bool {
	open := strings.Count(s, "(") - strings.Count(s, ")")
	if open < 0 {
		return false
	}
	closed := strings.Repeat(")", open)
	return treeOf(s+closed, 0) != nil || treeOf(s+"1"+closed, 0) != nil
}

func isPrefix(s string, i int) bool {
	return s[i] == '-' && (i == 0 || !endsFactor(s[i-1]))
}

// isClosed reports whether the first ( of s is closed in it.
func isClosed(s string) bool {
	depth := 0
	for i := range len(s) {
		depth += map[byte]int{'(': 1, ')': -1}[s[i]]
		if depth == 0 {
			return true
		}
	}
	return false
}

// hasEnded reports whether the factor with which s begins has ended in it.
func hasEnded(s string) bool {
	for end := range len(s) + 1 {
		if treeOf(s[:end], 0) != nil && lastBetween(s[:end], "+-*") < 0 {
			return true
		}
	}
	return false
}

// encloses reports whether at i there is a ( or a prefix - that encloses what follows s.
func encloses(s string, i int) bool {
	return s[i] == '(' && !isClosed(s[i:]) || isPrefix(s, i) && !hasEnded(s[i+1:])
}

// tooDeep reports whether the last token of s is a ( or a prefix - that 16 others enclose.
func tooDeep(s string) bool {
	last := len(s) - 1
	if s[last] != '(' && !isPrefix(s, last) {
		return false
	}
	open := 0
	for i := range last {
		if encloses(s[:last], i) {
			open++
		}
	}
	return open >= 16
}

// model tells what each source form is; what it has told of one it knows for those that go on from it.
type model struct {
	known map[string]api.Errno
}

// wrong tells why s, which may continue but for its last token, cannot with that.
func (m model) wrong(s string) api.Errno {
	if code, ok := m.known[s]; ok {
		return code
	}
	code := api.OK
	switch {
	case !continues(s):
		code = api.ErrForm
	case tooDeep(s):
		code = api.ErrLong
	}
	m.known[s] = code
	return code
}

func (m model) parse(s string) (*tree, int, api.Errno) {
	n, err := 0, api.ErrForm
	for n < len(s) && m.wrong(s[:n+1]) == api.OK {
		n++
	}
	if n < len(s) {
		err = m.wrong(s[:n+1])
	}
	if x := treeOf(s[:n], 0); x != nil {
		return x, n, api.OK
	}
	return nil, n, err
}

// check asks Parse, and what takes an expression, for what the model tells of a source form.
func (m model) check(t *testing.T, s string) {
	t.Helper()
	x, wantN, want := m.parse(s)
	e, n, err := expr.Parse(coded(s))
	if n != wantN || err != want {
		t.Errorf("%s: %d, %d, not %d, %d", s, n, err, wantN, want)
	}
	if x == nil {
		if len(e) != 0 {
			t.Errorf("%s: %s", s, told(e))
		}
		return
	}
	if terms := x.terms(nil); !slices.Equal(e, terms) {
		t.Errorf("%s: %s, not %s", s, told(e), told(terms))
		return
	}
	if !expr.Right(e) || !slices.Equal(modelUsed(e), everyIndex(len(e))) {
		t.Errorf("%s: %s", s, told(e))
	}
	if got, want := expr.Names(e), x.names(nil); !slices.Equal(got, want) {
		t.Errorf("%s: %q, not %q", s, got, want)
	}
	if v, err := expr.Eval(e, value(map[string]int64{"a": 3, "b": -7})); big.NewInt(v).Cmp(x.value()) != 0 || err != api.OK {
		t.Errorf("%s: %d, %d, not %d", s, v, err, x.value())
	}
}

func everyIndex(n int) []int {
	var l []int
	for i := range n {
		l = append(l, i)
	}
	return l
}

// checkSequences asks for all source forms of up to n of these parts.
func checkSequences(t *testing.T, n int, parts ...string) {
	t.Helper()
	m := model{known: map[string]api.Errno{}}
	for l := range arrange.Sequences(parts, n) {
		m.check(t, strings.Join(l, ""))
	}
}

func TestAllShortSourceForms(t *testing.T) {
	checkSequences(t, 4, strings.Split("1ab+-*()=#<>_|", "")...)
	checkSequences(t, 6, strings.Split("1+-*()", "")...)
	checkSequences(t, 8, strings.Split("1-()", "")...)
}

func TestAllSourceFormsOfLongerParts(t *testing.T) {
	checkSequences(t, 5, "1", "a+", "b-", "1*", "-(", ")", "(1", "*b)", "--a")
}

func TestAllDeepSourceForms(t *testing.T) {
	checkSequences(t, 4, "(", "-", strings.Repeat("(", 15), strings.Repeat("-", 15), strings.Repeat("-(", 8), "1", "1)", strings.Repeat(")", 15), "+", "1*", "-1-")
}

// P15.1, P15.2 and P15.3, of terms

// uses are the letters of the fields that each kind uses.
func uses(kind uint8) string {
	return map[uint8]string{api.TNumber: "V", api.TName: "N", api.TAdd: "AB", api.TSub: "AB", api.TMul: "AB", api.TNeg: "A"}[kind]
}

// isRightAt tells whether a term is right at that index, field by field.
func isRightAt(term api.Term, i int) bool {
	fields := uses(term.Kind)
	for _, x := range []struct {
		letter       string
		right, unset bool
	}{
		{"V", term.V >= 0 && term.V <= 1<<40, term.V == 0},
		{"N", len(term.Name) > 0, len(term.Name) == 0},
		{"A", term.A >= 0 && term.A <= i-1, term.A == 0},
		{"B", term.B >= 0 && term.B <= i-1, term.B == 0},
	} {
		if strings.Contains(fields, x.letter) && !x.right || !strings.Contains(fields, x.letter) && !x.unset {
			return false
		}
	}
	return fields != ""
}

func TestEveryTerm(t *testing.T) {
	indexes := []int{math.MinInt, -1, 0, 1, 2, 3, math.MaxInt}
	for kind := range 256 {
		for _, v := range []int64{math.MinInt64, -1, 0, 1, most, most + 1, math.MaxInt64} {
			for _, s := range []string{"", "a"} {
				for _, a := range indexes {
					for _, b := range indexes {
						term := api.Term{Kind: uint8(kind), V: v, Name: s, A: a, B: b}
						for ahead := range 3 {
							if got := expr.Right(append(ones()[:ahead], term)); got != isRightAt(term, ahead) {
								t.Errorf("%+v at %d: %t", term, ahead, got)
							}
						}
					}
				}
			}
		}
	}
}

// refers are the indexes to which a term refers.
func refers(term api.Term) []int {
	switch uses(term.Kind) {
	case "A":
		return []int{term.A}
	case "AB":
		return []int{term.A, term.B}
	}
	return nil
}

// modelUsed are the indexes of the used terms, in order: from the last one on, wherever the references lead.
func modelUsed(e []api.Term) []int {
	reached := map[int]bool{}
	var reach func(i int)
	reach = func(i int) {
		if reached[i] {
			return
		}
		reached[i] = true
		for _, k := range refers(e[i]) {
			reach(k)
		}
	}
	reach(len(e) - 1)
	var l []int
	for i := range e {
		if reached[i] {
			l = append(l, i)
		}
	}
	return l
}

// modelTerm is the value of a term that is no name, of those ahead of it.
func modelTerm(term api.Term, values map[int]*big.Int) *big.Int {
	v := new(big.Int)
	switch term.Kind {
	case api.TNumber:
		return v.SetInt64(term.V)
	case api.TAdd:
		return v.Add(values[term.A], values[term.B])
	case api.TSub:
		return v.Sub(values[term.A], values[term.B])
	case api.TMul:
		return v.Mul(values[term.A], values[term.B])
	}
	return v.Neg(values[term.A])
}

// modelEval tells the value or the error of an expression, and which names are asked for.
func modelEval(e []api.Term, answers map[string]answer) (want answer, asked []string) {
	limit := new(big.Int).Lsh(big.NewInt(1), 40)
	values := map[int]*big.Int{}
	for _, i := range modelUsed(e) {
		if e[i].Kind == api.TName {
			asked = append(asked, e[i].Name)
			told := answers[e[i].Name]
			if told.err != api.OK {
				return answer{err: told.err}, asked
			}
			values[i] = big.NewInt(told.v)
		} else {
			values[i] = modelTerm(e[i], values)
		}
		if values[i].CmpAbs(limit) > 0 {
			return answer{err: api.ErrRange}, asked
		}
	}
	return answer{v: values[len(e)-1].Int64()}, asked
}

// checkTerms asks for what the model tells of a valid expression.
func checkTerms(t *testing.T, e []api.Term, several []map[string]answer) {
	t.Helper()
	if !expr.Right(e) {
		t.Errorf("%s is not right", told(e))
	}
	var names []string
	for _, i := range modelUsed(e) {
		if e[i].Kind == api.TName && !slices.Contains(names, e[i].Name) {
			names = append(names, e[i].Name)
		}
	}
	checkNames(t, e, names...)
	for _, answers := range several {
		want, asked := modelEval(e, answers)
		checkEval(t, e, answers, want, strings.Join(asked, " "))
	}
}

// withOneMore goes through all valid expressions that go on from e up to n terms.
func withOneMore(e []api.Term, n int, do func(e []api.Term)) {
	if len(e) > 0 {
		do(e)
	}
	if len(e) == n {
		return
	}
	for _, term := range []api.Term{number(3), number(most), name("a"), name("b")} {
		withOneMore(append(e, term), n, do)
	}
	for a := range len(e) {
		withOneMore(append(e, neg(a)), n, do)
		for b := range len(e) {
			for _, kind := range []uint8{api.TAdd, api.TSub, api.TMul} {
				withOneMore(append(e, both(kind, a, b)), n, do)
			}
		}
	}
}

func TestAllShortExpressions(t *testing.T) {
	several := []map[string]answer{
		{"a": {v: 5}, "b": {v: -2}},
		{"a": {v: 1 << 24}, "b": {v: -most}},
		{"a": {v: -1}, "b": {err: api.ErrLoop}},
		{"a": {v: most + 1}, "b": {v: 9, err: api.ErrNone}},
	}
	withOneMore(nil, 4, func(e []api.Term) { checkTerms(t, e, several) })
}
