package expr_test

import (
	"fmt"
	"math"
	"slices"
	"strings"
	"testing"

	"coxless/api"
	"coxless/expr"
	"coxless/lex"
)

const most = api.MaxValue

// tokens are those of one line, without its end.
func tokens(text string) []lex.Token {
	l, _ := lex.Split(text)
	return l[:len(l)-1]
}

func number(v int64) api.Term            { return api.Term{Kind: api.TNumber, V: v} }
func name(s string) api.Term             { return api.Term{Kind: api.TName, Name: s} }
func both(kind uint8, a, b int) api.Term { return api.Term{Kind: kind, A: a, B: b} }
func neg(a int) api.Term                 { return api.Term{Kind: api.TNeg, A: a} }

// toldTerm tells a term: a number as #5, a name as it is, 0+1, 0-1 and 0*1 of two terms and -0 of one; anything else whole.
func toldTerm(term api.Term) string {
	switch term {
	case number(term.V):
		return fmt.Sprintf("#%d", term.V)
	case name(term.Name):
		return term.Name
	case both(api.TAdd, term.A, term.B):
		return fmt.Sprintf("%d+%d", term.A, term.B)
	case both(api.TSub, term.A, term.B):
		return fmt.Sprintf("%d-%d", term.A, term.B)
	case both(api.TMul, term.A, term.B):
		return fmt.Sprintf("%d*%d", term.A, term.B)
	case neg(term.A):
		return fmt.Sprintf("-%d", term.A)
	}
	return fmt.Sprintf("%+v", term)
}

func told(e []api.Term) string {
	var out []string
	for _, term := range e {
		out = append(out, toldTerm(term))
	}
	return strings.Join(out, " ")
}

func toldTokens(l []lex.Token) string {
	return fmt.Sprintf("%.300s", fmt.Sprint(l))
}

// checkTokens asks for this expression of the first n tokens.
func checkTokens(t *testing.T, l []lex.Token, want string, n int) {
	t.Helper()
	e, got, err := expr.Parse(l)
	if told(e) != want || got != n || err != api.OK {
		t.Errorf("%s: %.300s, %d, %d, not %.300s, %d", toldTokens(l), told(e), got, err, want, n)
	}
	if !expr.Right(e) {
		t.Errorf("%s: %.300s is not right", toldTokens(l), told(e))
	}
}

// check asks for this expression of all tokens of the text.
func check(t *testing.T, text, want string) {
	t.Helper()
	l := tokens(text)
	checkTokens(t, l, want, len(l))
}

// checkWrongTokens asks for this error at this token.
func checkWrongTokens(t *testing.T, l []lex.Token, at int, want api.Errno) {
	t.Helper()
	e, n, err := expr.Parse(l)
	if len(e) != 0 || n != at || err != want {
		t.Errorf("%s: %.300s, %d, %d, not %d, %d", toldTokens(l), told(e), n, err, at, want)
	}
}

func checkWrong(t *testing.T, text string, at int, want api.Errno) {
	t.Helper()
	checkWrongTokens(t, tokens(text), at, want)
}

// The examples of the chapter

func value(names map[string]int64) func(string) (int64, api.Errno) {
	return func(name string) (int64, api.Errno) {
		v, ok := names[name]
		if !ok {
			return 0, api.ErrNone
		}
		return v, api.OK
	}
}

// checkValue asks for the value of the text, or what is wrong with it, where a is 3 and b is 1.
func checkValue(t *testing.T, text string, want int64, wrong api.Errno) {
	t.Helper()
	e, n, err := expr.Parse(tokens(text))
	if n != len(tokens(text)) || err != api.OK {
		t.Errorf("%s: %d, %d", text, n, err)
	}
	v, got := expr.Eval(e, value(map[string]int64{"a": 3, "b": 1}))
	if v != want || got != wrong {
		t.Errorf("%s: %d, %d, not %d, %d", text, v, got, want, wrong)
	}
}

func TestExamples(t *testing.T) {
	checkValue(t, "1+2*3", 7, api.OK)
	checkValue(t, "(1+2)*3", 9, api.OK)
	checkValue(t, "2-3-4", -5, api.OK)
	checkValue(t, "- -5", 5, api.OK)
	checkValue(t, "-(2)", -2, api.OK)
	checkValue(t, "a*a-b", 8, api.OK)
	e, _, _ := expr.Parse(tokens("a*a-b"))
	if got := expr.Names(e); !slices.Equal(got, []string{"a", "b"}) {
		t.Errorf("%q", got)
	}
	checkWrong(t, "1 +", 2, api.ErrForm)
	checkWrong(t, ")", 0, api.ErrForm)
	checkTokens(t, tokens("1 2"), "#1", 1)
	checkWrong(t, "( 1", 2, api.ErrForm)
	checkValue(t, "1099511627776 + 1", 0, api.ErrRange)
	checkValue(t, "c", 0, api.ErrNone)
}

// P15.1, Parse: source forms

func TestFactors(t *testing.T) {
	check(t, "1", "#1")
	check(t, "0x1F", "#31")
	check(t, "010", "#10")
	check(t, "a", "a")
	check(t, ".a.b_1", ".a.b_1")
	check(t, "-1", "#1 -0")
	check(t, "-a", "a -0")
	check(t, "--1", "#1 -0 -1")
	check(t, "- - -a", "a -0 -1 -2")
	check(t, "(1)", "#1")
	check(t, "((a))", "a")
	check(t, "-(1)", "#1 -0")
	check(t, "(-1)", "#1 -0")
	check(t, "-(-(-1))", "#1 -0 -1 -2")
}

func TestSums(t *testing.T) {
	check(t, "1+2", "#1 #2 0+1")
	check(t, "a-b", "a b 0-1")
	check(t, "1+2+3", "#1 #2 0+1 #3 2+3")
	check(t, "1-2-3", "#1 #2 0-1 #3 2-3")
	check(t, "1-2+3", "#1 #2 0-1 #3 2+3")
	check(t, "1+2-3", "#1 #2 0+1 #3 2-3")
	check(t, "1-2-3-4-5", "#1 #2 0-1 #3 2-3 #4 4-5 #5 6-7")
	check(t, "1-(2-3)", "#1 #2 #3 1-2 0-3")
	check(t, "(1-2)-3", "#1 #2 0-1 #3 2-3")
	check(t, "1-(2-(3-4))", "#1 #2 #3 #4 2-3 1-4 0-5")
	check(t, "(1-2)-(3-4)", "#1 #2 0-1 #3 #4 3-4 2-5")
}

func TestProducts(t *testing.T) {
	check(t, "1*2", "#1 #2 0*1")
	check(t, "1*2*3", "#1 #2 0*1 #3 2*3")
	check(t, "1*2*3*4", "#1 #2 0*1 #3 2*3 #4 4*5")
	check(t, "1*(2*3)", "#1 #2 #3 1*2 0*3")
	check(t, "1+2*3", "#1 #2 #3 1*2 0+3")
	check(t, "1*2+3", "#1 #2 0*1 #3 2+3")
	check(t, "1-2*3", "#1 #2 #3 1*2 0-3")
	check(t, "1*2-3", "#1 #2 0*1 #3 2-3")
	check(t, "1*2-3*4", "#1 #2 0*1 #3 #4 3*4 2-5")
	check(t, "1-2*3-4", "#1 #2 #3 1*2 0-3 #4 4-5")
	check(t, "1+2*3*4+5", "#1 #2 #3 1*2 #4 3*4 0+5 #5 6+7")
	check(t, "(1+2)*3", "#1 #2 0+1 #3 2*3")
	check(t, "1*(2+3)", "#1 #2 #3 1+2 0*3")
	check(t, "(1+2)*(3-4)", "#1 #2 0+1 #3 #4 3-4 2*5")
}

func TestPrefixes(t *testing.T) {
	check(t, "-1-2", "#1 -0 #2 1-2")
	check(t, "1--2", "#1 #2 -1 0-2")
	check(t, "1---2", "#1 #2 -1 -2 0-3")
	check(t, "1+-2", "#1 #2 -1 0+2")
	check(t, "-a*b", "a -0 b 1*2")
	check(t, "a*-b", "a b -1 0*2")
	check(t, "-a*-b", "a -0 b -2 1*3")
	check(t, "a*-b*c", "a b -1 0*2 c 3*4")
	check(t, "-1+2", "#1 -0 #2 1+2")
	check(t, "-(1+2)", "#1 #2 0+1 -2")
	check(t, "-(1)*2", "#1 -0 #2 1*2")
	check(t, "-(1*2)", "#1 #2 0*1 -2")
}

func TestNamesInTerms(t *testing.T) {
	check(t, "a+a", "a a 0+1")
	check(t, "a*a-b", "a a 0*1 b 2-3")
	check(t, "a*(b-1)", "a b #1 1-2 0*3")
	check(t, "r1+if-code", "r1 if 0+1 code 2-3")
	// The lexer does not make such tokens.
	for _, s := range []string{"+", "(", ")", "-", "5", " ", "\x00", "\xff", strings.Repeat("n", 100)} {
		checkTokens(t, []lex.Token{{Kind: lex.KName, Text: s}}, s, 1)
		checkTokens(t, []lex.Token{{Kind: lex.KName, Text: s, V: 7, Line: 3, Col: 4}, {Kind: lex.KSign, Text: "+"}, {Kind: lex.KName, Text: s}}, s+" "+s+" 0+1", 3)
	}
}

func TestNumbersInTerms(t *testing.T) {
	for _, v := range []int64{0, 1, 31, 1<<32 + 1, most - 1, most} {
		want := fmt.Sprintf("#%d", v)
		for _, s := range []string{"", "1", "a", "+", "-", "(", ")"} {
			checkTokens(t, []lex.Token{{Kind: lex.KNumber, Text: s, V: v, Line: -1, Col: 9}}, want, 1)
		}
	}
	for _, v := range []int64{-1, most + 1, -most, 2 * most, math.MaxInt64, math.MinInt64} {
		wrong := lex.Token{Kind: lex.KNumber, Text: "1", V: v}
		checkWrongTokens(t, []lex.Token{wrong}, 0, api.ErrForm)
		for _, s := range []string{"-", "(", "1+", "a*", "1-(2+"} {
			l := tokens(s)
			checkWrongTokens(t, append(l, wrong), len(l), api.ErrForm)
			checkWrongTokens(t, append(append(l, wrong), tokens("+1)")...), len(l), api.ErrForm)
		}
		// Behind an expression it is a number as any other.
		checkTokens(t, append(tokens("1+a"), wrong), "#1 a 0+1", 3)
	}
}

// P15.1, Parse: what cannot continue

func TestNoTokens(t *testing.T) {
	checkWrongTokens(t, nil, 0, api.ErrForm)
	checkWrongTokens(t, []lex.Token{}, 0, api.ErrForm)
	checkWrongTokens(t, tokens("1")[:0], 0, api.ErrForm)
}

func TestTokensThatEndTooEarly(t *testing.T) {
	for _, s := range []string{"-", "--", "(", "((", "(-", "-(", "1+", "1-", "1*", "a--", "1+2*", "1*2+", "(1", "(1+", "(1+2", "((1)", "(1)+", "(1)*-", "-(1", "-(1*", "1-(2-(3-4)", "(a)*(b"} {
		checkWrong(t, s, len(tokens(s)), api.ErrForm)
	}
	// At each place of one: it is an expression after these tokens alone.
	const text = "- ( 1 + a ) * ( ( 2 ) ) - - b"
	l := tokens(text)
	for n := range len(l) {
		switch n {
		case 6, 12:
			e, got, err := expr.Parse(l[:n])
			if got != n || err != api.OK || !expr.Right(e) {
				t.Errorf("%d tokens: %s, %d, %d", n, told(e), got, err)
			}
		default:
			checkWrongTokens(t, l[:n], n, api.ErrForm)
		}
	}
	check(t, text, "#1 a 0+1 -2 #2 3*4 b -6 5-7")
}

// strangers are tokens with which nothing continues, wherever they stand.
func strangers() []lex.Token {
	l := append(tokens("{};:,=!###"), lex.Token{Kind: lex.KEnd}, lex.Token{})
	for _, s := range []string{"+", "-", "*", "(", ")", "1", "a"} {
		for _, kind := range []uint8{0, lex.KEnd, 5, 9, 255} {
			l = append(l, lex.Token{Kind: kind, Text: s, V: 1})
		}
	}
	for _, s := range []string{"", "1", "a", "++", "--", "((", "+ ", " (", "/", "&"} {
		l = append(l, lex.Token{Kind: lex.KSign, Text: s, V: 1})
	}
	return l
}

func TestStrangers(t *testing.T) {
	// With each in each place, in front of what was there and instead of it.
	l := tokens("- ( 1 + a ) * ( ( 2 ) ) - - b")
	for _, stranger := range strangers() {
		for at := range len(l) + 1 {
			inserted := slices.Insert(slices.Clone(l), at, stranger)
			instead := slices.Clone(inserted)
			if at < len(l) {
				instead = slices.Delete(instead, at+1, at+2)
			}
			switch at {
			case 6:
				checkTokens(t, inserted, "#1 a 0+1 -2", at)
				checkTokens(t, instead, "#1 a 0+1 -2", at)
			case 12:
				checkTokens(t, inserted, "#1 a 0+1 -2 #2 3*4", at)
				checkTokens(t, instead, "#1 a 0+1 -2 #2 3*4", at)
			case len(l):
				checkTokens(t, inserted, "#1 a 0+1 -2 #2 3*4 b -6 5-7", at)
			default:
				checkWrongTokens(t, inserted, at, api.ErrForm)
				checkWrongTokens(t, instead, at, api.ErrForm)
			}
		}
	}
}

func TestWrongSigns(t *testing.T) {
	checkWrong(t, "+1", 0, api.ErrForm)
	checkWrong(t, "*1", 0, api.ErrForm)
	checkWrong(t, ")1", 0, api.ErrForm)
	checkWrong(t, "1 + * 2", 2, api.ErrForm)
	checkWrong(t, "1 ++ 2", 2, api.ErrForm)
	checkWrong(t, "1 -+ 2", 2, api.ErrForm)
	checkWrong(t, "1 * * 2", 2, api.ErrForm)
	checkWrong(t, "1 + )", 2, api.ErrForm)
	checkWrong(t, "1 - = 2", 2, api.ErrForm)
	checkWrong(t, "- * 2", 1, api.ErrForm)
	checkWrong(t, "- )", 1, api.ErrForm)
	checkWrong(t, "()", 1, api.ErrForm)
	checkWrong(t, "1+()", 3, api.ErrForm)
	checkWrong(t, "-()", 2, api.ErrForm)
	checkWrong(t, "(1+)", 3, api.ErrForm)
	checkWrong(t, "(1 2)", 2, api.ErrForm)
	checkWrong(t, "(1 (2))", 2, api.ErrForm)
	checkWrong(t, "(1, 2)", 2, api.ErrForm)
	checkWrong(t, "(1)+(2;)", 6, api.ErrForm)
	checkWrong(t, "((1) a)", 4, api.ErrForm)
	checkWrong(t, "#1", 0, api.ErrForm)
	checkWrong(t, "1+##2", 2, api.ErrForm)
	checkWrong(t, "!1", 0, api.ErrForm)
}

func TestNamesOfNoText(t *testing.T) {
	wrong := lex.Token{Kind: lex.KName}
	checkWrongTokens(t, []lex.Token{wrong}, 0, api.ErrForm)
	checkWrongTokens(t, []lex.Token{{Kind: lex.KName, V: 1, Line: 1, Col: 1}}, 0, api.ErrForm)
	for _, s := range []string{"-", "(", "1+", "a*", "1-(2+"} {
		l := tokens(s)
		checkWrongTokens(t, append(l, wrong), len(l), api.ErrForm)
	}
	checkTokens(t, append(tokens("1"), wrong), "#1", 1)
	checkWrongTokens(t, append(tokens("(1"), wrong), 2, api.ErrForm)
}

// P15.1, Parse: what stands behind an expression

func TestBehindAnExpression(t *testing.T) {
	for _, x := range []struct {
		text, want string
	}{{"1", "#1"}, {"a", "a"}, {"-1", "#1 -0"}, {"(1)", "#1"}, {"1+a", "#1 a 0+1"}, {"a*(b-1)", "a b #1 1-2 0*3"}} {
		for _, behind := range []string{"1", "a", ")", "(", "(1)", "{", "}", ";", ":", ",", "=", "!", "#", "##", "\n", "\n+1", ") + 1", "= *", "))", "# 1 + 2"} {
			checkTokens(t, tokens(x.text+" "+behind), x.want, len(tokens(x.text)))
		}
	}
	// With these it goes on, and then ends too early.
	for _, behind := range []string{"+", "-", "*", "+ +", "- )", "* =", "- ( 1", "+ 1 *"} {
		l := tokens("1 " + behind)
		at := map[string]int{"+ +": 2, "- )": 2, "* =": 2}[behind]
		if at == 0 {
			at = len(l)
		}
		checkWrongTokens(t, l, at, api.ErrForm)
	}
}

// P15.1, Parse: how deep

// nested is what these ( and - enclose, the ( closed.
func nested(enclosing, within string) string {
	return enclosing + within + strings.Repeat(")", strings.Count(enclosing, "("))
}

// enclosings are n ( and prefix - in several orders.
func enclosings(n int) []string {
	var out []string
	for _, s := range []string{"(", "-", "(-", "-(", "(--", "-((", "(((---", "-------("} {
		out = append(out, strings.Repeat(s, n)[:n])
	}
	return append(out, strings.Repeat("(", n-1)+"-", strings.Repeat("-", n-1)+"(", "-"+strings.Repeat("(", n-1), "("+strings.Repeat("-", n-1))
}

// toldNested tells the number 1 with that many - ahead of it.
func toldNested(enclosing string) string {
	out := "#1"
	for i := range strings.Count(enclosing, "-") {
		out += fmt.Sprintf(" -%d", i)
	}
	return out
}

func TestDepth(t *testing.T) {
	for _, n := range []int{1, 2, 15, 16} {
		for _, s := range enclosings(n) {
			check(t, nested(s, "1"), toldNested(s))
			checkWrong(t, s, n, api.ErrForm)
			checkWrong(t, s+")", n, api.ErrForm)
		}
	}
	for _, n := range []int{17, 18, 40} {
		for _, s := range enclosings(n) {
			checkWrong(t, nested(s, "1"), 16, api.ErrLong)
			checkWrong(t, s, 16, api.ErrLong)
			checkWrong(t, s[:17], 16, api.ErrLong)
			checkWrong(t, s[:17]+"=", 16, api.ErrLong)
		}
	}
	checkWrong(t, strings.Repeat("(", 1<<20), 16, api.ErrLong)
	checkWrong(t, strings.Repeat("-", 1<<20), 16, api.ErrLong)
}

func TestTheDeepest(t *testing.T) {
	for _, s := range enclosings(16) {
		// What is not a ( or a prefix - stands there as elsewhere.
		l := tokens(nested(s, "1"))
		if e, n, err := expr.Parse(l); n != len(l) || err != api.OK || told(e) != toldNested(s) {
			t.Errorf("%s: %s, %d, %d", s, told(e), n, err)
		}
		checkWrong(t, s+"*", 16, api.ErrForm)
		checkWrong(t, s+"=", 16, api.ErrForm)
		checkWrong(t, s+"(", 16, api.ErrLong)
		checkWrong(t, s+"-", 16, api.ErrLong)
	}
	deep := strings.Repeat("(", 16)
	// The - between two products is no prefix.
	check(t, nested(deep, "1-2-3"), "#1 #2 0-1 #3 2-3")
	check(t, nested(deep, "1*2-3"), "#1 #2 0*1 #3 2-3")
	checkWrong(t, deep+"1--", 18, api.ErrLong)
	checkWrong(t, deep+"1+(", 18, api.ErrLong)
	checkWrong(t, deep+"1*-", 18, api.ErrLong)
	checkWrong(t, deep+"1*(2", 18, api.ErrLong)
	// Where a ( cannot stand, that is what is wrong.
	checkWrong(t, deep+"1(", 17, api.ErrForm)
	checkTokens(t, tokens(strings.Repeat("-", 16)+"1("), toldNested(strings.Repeat("-", 16)), 17)
}

func TestDepthAfterAnEnd(t *testing.T) {
	for _, s := range enclosings(16) {
		for _, sign := range []string{"+", "-", "*"} {
			one := nested(s, "1")
			n := len(tokens(one))
			for _, text := range []string{one + sign + one, one + sign + one + sign + one} {
				e, got, err := expr.Parse(tokens(text))
				if got != len(tokens(text)) || err != api.OK || !expr.Right(e) {
					t.Errorf("%s: %d, %d", text, got, err)
				}
			}
			for _, more := range []string{"(", "-"} {
				checkWrong(t, one+sign+s+more+"1", n+1+16, api.ErrLong)
				checkWrong(t, one+sign+more+one, n+1+16, api.ErrLong)
			}
		}
	}
}

func TestDepthWithin(t *testing.T) {
	for _, s := range enclosings(15) {
		if strings.HasSuffix(s, "-") {
			continue
		}
		// What has ended does not enclose what follows.
		for _, within := range []string{"(1)+(2)", "-1-2", "-1--2", "-1+-2*-3", "(1)*-2-(3)", "-1-(2)--3"} {
			text := nested(s, within)
			e, n, err := expr.Parse(tokens(text))
			if n != len(tokens(text)) || err != api.OK || !expr.Right(e) {
				t.Errorf("%s: %d, %d", text, n, err)
			}
			// And what has not, does.
			for _, more := range []string{"(", "-"} {
				for _, last := range []string{"(", "-"} {
					checkWrong(t, s+within+"+"+last+more, 15+len(within)+2, api.ErrLong)
					checkWrong(t, s+within+"+"+last+"1*"+last+more, 15+len(within)+2+map[string]int{"(": 2, "-": 3}[last], api.ErrLong)
				}
			}
		}
	}
	// A - ahead of a ( encloses all that it holds.
	check(t, nested(strings.Repeat("-", 15)+"(", "1+2-3"), "#1 #2 0+1 #3 2-3 -4 -5 -6 -7 -8 -9 -10 -11 -12 -13 -14 -15 -16 -17 -18")
	checkWrong(t, strings.Repeat("-", 15)+"(1+-", 18, api.ErrLong)
	checkWrong(t, strings.Repeat("-", 15)+"(1+(", 18, api.ErrLong)
	check(t, strings.Repeat("-", 15)+"(1)+(-2)", "#1 -0 -1 -2 -3 -4 -5 -6 -7 -8 -9 -10 -11 -12 -13 -14 #2 -16 15+17")
}

func TestLongExpressions(t *testing.T) {
	const n = 1 << 17
	for _, sign := range []string{"+", "-", "*"} {
		l := tokens("1" + strings.Repeat(sign+"(-1)", n))
		e, got, err := expr.Parse(l)
		if len(e) != 3*n+1 || got != len(l) || err != api.OK || !expr.Right(e) {
			t.Fatalf("%d terms, %d, %d", len(e), got, err)
		}
		v, wrong := expr.Eval(e, value(nil))
		if want := map[string]int64{"+": 1 - n, "-": 1 + n, "*": 1}[sign]; v != want || wrong != api.OK {
			t.Errorf("%d, %d, not %d", v, wrong, want)
		}
		checkWrongTokens(t, append(l, tokens("+")...), len(l)+1, api.ErrForm)
	}
}

// P15.1, Right

// ones are three terms that may stand ahead of any other.
func ones() []api.Term {
	return []api.Term{number(0), name("a"), both(api.TAdd, 0, 1)}
}

// checkRight asks whether an expression is right with this term at the end, and with more behind it.
func checkRight(t *testing.T, ahead int, term api.Term, want bool) {
	t.Helper()
	e := append(ones()[:ahead], term)
	for _, behind := range [][]api.Term{nil, {number(most)}, {name("b"), both(api.TMul, 0, 0)}, {neg(ahead)}} {
		if got := expr.Right(append(e, behind...)); got != want {
			t.Errorf("%s: %t, not %t", told(append(e, behind...)), got, want)
		}
	}
}

func TestRight(t *testing.T) {
	for _, e := range [][]api.Term{nil, {}, ones()[:0]} {
		if expr.Right(e) {
			t.Errorf("%#v is right", e)
		}
	}
	for ahead := range 4 {
		for _, v := range []int64{0, 1, most - 1, most} {
			checkRight(t, ahead, number(v), true)
		}
		for _, v := range []int64{-1, -most, most + 1, math.MaxInt64, math.MinInt64} {
			checkRight(t, ahead, number(v), false)
		}
		for _, s := range []string{"a", "0", "+", " ", "\x00", strings.Repeat("n", 100)} {
			checkRight(t, ahead, name(s), true)
		}
		checkRight(t, ahead, name(""), false)
	}
}

func TestRightIndexes(t *testing.T) {
	for ahead := range 4 {
		for _, a := range []int{math.MinInt, -2, -1, 0, 1, 2, 3, 4, 5, math.MaxInt} {
			earlier := 0 <= a && a < ahead
			checkRight(t, ahead, neg(a), earlier)
			for _, kind := range []uint8{api.TAdd, api.TSub, api.TMul} {
				checkRight(t, ahead, both(kind, a, a), earlier)
				for k := range ahead {
					checkRight(t, ahead, both(kind, a, k), earlier)
					checkRight(t, ahead, both(kind, k, a), earlier)
				}
			}
		}
	}
}

func TestFieldsThatAKindDoesNotUse(t *testing.T) {
	for ahead := 1; ahead < 4; ahead++ {
		for _, right := range []api.Term{number(0), number(5), name("a"), both(api.TAdd, 0, 0), both(api.TSub, 0, 0), both(api.TMul, 0, 0), neg(0)} {
			checkRight(t, ahead, right, true)
			for _, v := range []int64{1, -1, most} {
				term := right
				term.V = v
				checkRight(t, ahead, term, right.Kind == api.TNumber && v > 0)
			}
			for _, s := range []string{"a", "0"} {
				term := right
				term.Name = s
				checkRight(t, ahead, term, right.Kind == api.TName)
			}
			for a := 1; a < ahead; a++ {
				term := right
				term.A = a
				checkRight(t, ahead, term, right.Kind >= api.TAdd)
				term = right
				term.B = a
				checkRight(t, ahead, term, right.Kind == api.TAdd || right.Kind == api.TSub || right.Kind == api.TMul)
			}
			for _, a := range []int{-1, ahead, math.MaxInt} {
				term := right
				term.A = a
				checkRight(t, ahead, term, false)
				term = right
				term.B = a
				checkRight(t, ahead, term, false)
			}
		}
	}
}

func TestKindsThatThereAreNot(t *testing.T) {
	for ahead := range 4 {
		for _, kind := range []uint8{0, 7, 8, 128, 255} {
			for _, term := range []api.Term{{}, {V: 1}, {Name: "a"}, {A: 1, B: 2}, {A: 1}} {
				term.Kind = kind
				checkRight(t, ahead, term, false)
			}
		}
	}
}

// A term that is wrong is so even if it is not used.
func TestWrongTermsThatAreNotUsed(t *testing.T) {
	for _, wrong := range []api.Term{{}, {Kind: 7}, number(-1), number(most + 1), name(""), neg(1), both(api.TAdd, 0, 1), {Kind: api.TNumber, Name: "a"}} {
		e := []api.Term{name("a"), wrong, number(1)}
		checkNotRight(t, e)
	}
}

// checkNotRight asks for nothing of an expression that is not valid.
func checkNotRight(t *testing.T, e []api.Term) {
	t.Helper()
	asked := 0
	v, err := expr.Eval(e, func(string) (int64, api.Errno) { asked++; return 1, api.OK })
	if names := expr.Names(e); expr.Right(e) || len(names) != 0 || v != 0 || err != api.ErrArg || asked != 0 {
		t.Errorf("%s: right %t, %q, %d, %d, %d asked", told(e), expr.Right(e), names, v, err, asked)
	}
}
