package expr_test

import (
	"fmt"
	"math"
	"slices"
	"strings"
	"testing"
	"unsafe"

	"coxless/api"
	"coxless/expr"
	"coxless/lex"
)

// answer is what value tells of a name.
type answer struct {
	v   int64
	err api.Errno
}

// asked is a value function of these answers, and the names that it has been asked for.
type asked struct {
	answers map[string]answer
	names   []string
}

func (a *asked) value(name string) (int64, api.Errno) {
	a.names = append(a.names, name)
	told, ok := a.answers[name]
	if !ok {
		return 0, api.ErrNone
	}
	return told.v, told.err
}

// checkEval asks for this value or error, and for these names to be asked for.
func checkEval(t *testing.T, e []api.Term, answers map[string]answer, want answer, names string) {
	t.Helper()
	a := asked{answers: answers}
	v, err := expr.Eval(e, a.value)
	if (answer{v, err}) != want || strings.Join(a.names, " ") != names {
		t.Errorf("%s: %d, %d of %q, not %d, %d of %q", told(e), v, err, a.names, want.v, want.err, names)
	}
}

func checkNames(t *testing.T, e []api.Term, want ...string) {
	t.Helper()
	if got := expr.Names(e); !slices.Equal(got, want) {
		t.Errorf("%s: %q, not %q", told(e), got, want)
	}
}

// P15.2

func TestNames(t *testing.T) {
	for text, want := range map[string]string{
		"1": "", "-(1+2)*3": "", "a": "a", "-a": "a", "a+b": "a b", "b+a": "b a", "a+a": "a", "a*a-b": "a b", "a-b*a-b*c-a": "a b c",
		"c-(b-(a-b))-c": "c b a", "a+A+_+.a+.": "a A _ .a .", "1*b+2*a*3": "b a", "(z)*(y)-(z)*(x)": "z y x",
	} {
		e, _, _ := expr.Parse(tokens(text))
		checkNames(t, e, strings.Fields(want)...)
	}
	checkNames(t, []api.Term{name("+"), name(" "), name("+"), both(api.TAdd, 0, 1), both(api.TSub, 3, 2)}, "+", " ")
}

func TestNamesInTheOrderOfTheirIndexes(t *testing.T) {
	l := []api.Term{name("b"), name("a"), name("c"), name("a"), name("b")}
	for _, kind := range []uint8{api.TAdd, api.TSub, api.TMul} {
		checkNames(t, append(l, both(kind, 1, 0)), "b", "a")
		checkNames(t, append(l, both(kind, 0, 1)), "b", "a")
		checkNames(t, append(l, both(kind, 4, 3)), "a", "b")
		checkNames(t, append(l, both(kind, 4, 2)), "c", "b")
		checkNames(t, append(l, both(kind, 3, 1)), "a")
		checkNames(t, append(l, both(kind, 2, 2)), "c")
		checkNames(t, append(l, both(kind, 4, 2), both(kind, 5, 1)), "a", "c", "b")
		checkNames(t, append(l, both(kind, 2, 4), both(kind, 3, 5)), "c", "a", "b")
		checkNames(t, append(l, both(kind, 2, 4), neg(5)), "c", "b")
	}
	checkNames(t, append(l, neg(2)), "c")
	checkNames(t, l, "b")
}

func TestNamesThatAreNotUsed(t *testing.T) {
	checkNames(t, []api.Term{name("a"), name("b")}, "b")
	checkNames(t, []api.Term{name("a"), number(1)})
	checkNames(t, []api.Term{name("a"), name("b"), neg(0)}, "a")
	checkNames(t, []api.Term{name("a"), name("b"), neg(0), number(1), neg(3)})
	checkNames(t, []api.Term{name("a"), name("b"), name("a"), both(api.TMul, 1, 2)}, "b", "a")
	// What an unused term refers to is not used by that.
	checkNames(t, []api.Term{name("a"), name("b"), both(api.TAdd, 0, 1), name("c"), neg(2), neg(3)}, "c")
	checkNames(t, []api.Term{name("a"), both(api.TAdd, 0, 0), both(api.TAdd, 1, 1), number(0)})
}

func TestNamesOfWhatIsNotValid(t *testing.T) {
	for _, e := range [][]api.Term{nil, {}, {{}}, {name("a"), {}}, {name("a"), name("")}, {name("a"), neg(1)}, {name("a"), both(api.TAdd, 0, -1)}, {name("a"), both(api.TAdd, 2, 0), neg(0)}, {name("a"), {Kind: 7}}, {{Kind: api.TName, Name: "a", V: 1}}, {{Kind: 7, Name: "a"}}, {{Name: "a"}}, {name("a"), {Kind: api.TNeg, Name: "a"}}, {number(-1), name("a")}, {number(most + 1), name("a")}} {
		checkNotRight(t, e)
	}
}

func TestManyNames(t *testing.T) {
	const n = 1 << 16
	e := []api.Term{name("n0")}
	want := []string{"n0"}
	for i := range n {
		s := fmt.Sprintf("n%d", i)
		if i > 0 {
			want = append(want, s)
		}
		e = append(e, name(s), both(api.TAdd, len(e)-1, len(e)))
	}
	if got := expr.Names(e); !slices.Equal(got, want) {
		t.Errorf("%d names", len(got))
	}
}

// P15.3: values

func TestValuesOfTexts(t *testing.T) {
	for text, want := range map[string]int64{
		"0": 0, "7": 7, "0x10+010": 26, "a": 3, "-a": -3, "--a": 3, "---a": -3, "1-2-3": -4, "1-(2-3)": 2, "2*3*4": 24, "2+3*4": 14, "2*3+4": 10, "(2+3)*4": 20, "2*-3": -6, "-2*3": -6,
		"-a*a": -9, "a-b*a": 0, "(a-b)*a": 6, "a*(a-b)-(b-a)*a": 12, "0-0": 0, "0*a": 0, "-0": 0, "1-1-1--1": 0, "a-a-a": -3, "2*(3-(4-(5-6)))": -4,
		"1099511627776": most, "-1099511627776": -most, "1099511627776-1099511627776": 0, "1048576*1048576": most, "-1048576*1048576": -most, "0*1099511627776": 0,
	} {
		checkValue(t, text, want, api.OK)
	}
}

func TestErrorsOfTexts(t *testing.T) {
	for text, want := range map[string]api.Errno{
		"c": api.ErrNone, "-c": api.ErrNone, "0*c": api.ErrNone, "c-c": api.ErrNone, "1099511627776+b": api.ErrRange, "-1099511627776-b": api.ErrRange, "1048577*1048576": api.ErrRange,
		"1099511627776*1099511627776*0": api.ErrRange, "1099511627776+1-1": api.ErrRange, "(1099511627776+1)*0": api.ErrRange, "0*(1099511627776+1)": api.ErrRange, "1099511627776+1+c": api.ErrRange, "c+(1099511627776+1)": api.ErrNone,
	} {
		checkValue(t, text, 0, want)
	}
}

// TestEdges computes with two names, up to the greatest and the least value and beyond them.
func TestEdges(t *testing.T) {
	for _, x := range []struct {
		kind uint8
		a, b int64
		want int64
		err  api.Errno
	}{
		{api.TAdd, most, 0, most, api.OK}, {api.TAdd, most - 1, 1, most, api.OK}, {api.TAdd, 1 << 39, 1 << 39, most, api.OK}, {api.TAdd, -most, 0, -most, api.OK}, {api.TAdd, -most + 1, -1, -most, api.OK}, {api.TAdd, most, -most, 0, api.OK},
		{api.TAdd, most, 1, 0, api.ErrRange}, {api.TAdd, 1, most, 0, api.ErrRange}, {api.TAdd, most, most, 0, api.ErrRange}, {api.TAdd, -most, -1, 0, api.ErrRange}, {api.TAdd, -1, -most, 0, api.ErrRange}, {api.TAdd, -most, -most, 0, api.ErrRange},
		{api.TSub, most, 0, most, api.OK}, {api.TSub, 0, -most, most, api.OK}, {api.TSub, most - 1, -1, most, api.OK}, {api.TSub, 0, most, -most, api.OK}, {api.TSub, -most, 0, -most, api.OK}, {api.TSub, -1, most - 1, -most, api.OK}, {api.TSub, most, most, 0, api.OK}, {api.TSub, -most, -most, 0, api.OK},
		{api.TSub, most, -1, 0, api.ErrRange}, {api.TSub, 1, -most, 0, api.ErrRange}, {api.TSub, most, -most, 0, api.ErrRange}, {api.TSub, -most, 1, 0, api.ErrRange}, {api.TSub, -1, most, 0, api.ErrRange}, {api.TSub, -most, most, 0, api.ErrRange},
		{api.TMul, 1 << 20, 1 << 20, most, api.OK}, {api.TMul, -1 << 20, -1 << 20, most, api.OK}, {api.TMul, most, 1, most, api.OK}, {api.TMul, -1, -most, most, api.OK}, {api.TMul, -most, 1, -most, api.OK}, {api.TMul, -1, most, -most, api.OK}, {api.TMul, 1 << 19, -1 << 21, -most, api.OK},
		{api.TMul, 0, most, 0, api.OK}, {api.TMul, -most, 0, 0, api.OK}, {api.TMul, 0, 0, 0, api.OK}, {api.TMul, most, 0, 0, api.OK}, {api.TMul, 3, -5, -15, api.OK},
		// 2^40 + 1 is 257 * 4278255361.
		{api.TMul, 257, 4278255361, 0, api.ErrRange}, {api.TMul, 4278255361, 257, 0, api.ErrRange}, {api.TMul, -257, -4278255361, 0, api.ErrRange}, {api.TMul, -257, 4278255361, 0, api.ErrRange}, {api.TMul, 257, -4278255361, 0, api.ErrRange},
		{api.TMul, 256, 4278255361, 256 * 4278255361, api.OK}, {api.TMul, most, 2, 0, api.ErrRange}, {api.TMul, -2, most, 0, api.ErrRange},
	} {
		e := []api.Term{name("a"), name("b"), both(x.kind, 0, 1)}
		checkEval(t, e, map[string]answer{"a": {v: x.a}, "b": {v: x.b}}, answer{x.want, x.err}, "a b")
	}
	for _, v := range []int64{most, most - 1, 1, 0, -1, -most + 1, -most} {
		checkEval(t, []api.Term{name("a"), neg(0)}, map[string]answer{"a": {v: v}}, answer{v: -v}, "a")
		checkEval(t, []api.Term{name("a"), neg(0), neg(1)}, map[string]answer{"a": {v: v}}, answer{v: v}, "a")
	}
}

// TestProductsBeyond64Bits takes products whose last 64 bits are a value again, and others.
func TestProductsBeyond64Bits(t *testing.T) {
	for _, x := range [][2]int64{
		{1 << 40, 1 << 24}, {1 << 32, 1 << 32}, {1 << 40, 1 << 40}, {1<<33 + 1, 1 << 31}, {1<<32 + 1, 1 << 32}, {1 << 40, 1<<24 + 1}, {1<<38 + 1, 1 << 26}, {1<<34 + 3, 1 << 30},
		{1 << 40, 1 << 23}, {1 << 32, 1 << 31}, {3037000500, 3037000500}, {4294967295, 4294967297}, {most, most - 1}, {most - 1, most - 1}, {1 << 39, 1 << 25}, {1 << 36, 1 << 28},
	} {
		for _, a := range []int64{x[0], -x[0]} {
			for _, b := range []int64{x[1], -x[1]} {
				answers := map[string]answer{"a": {v: a}, "b": {v: b}}
				checkEval(t, []api.Term{name("a"), name("b"), both(api.TMul, 0, 1)}, answers, answer{err: api.ErrRange}, "a b")
				checkEval(t, []api.Term{name("a"), name("b"), both(api.TMul, 1, 0)}, answers, answer{err: api.ErrRange}, "a b")
			}
		}
	}
}

func TestNumbersAndNamesAsValues(t *testing.T) {
	for _, v := range []int64{0, 1, most - 1, most} {
		checkEval(t, []api.Term{number(v)}, nil, answer{v: v}, "")
	}
	for _, v := range []int64{0, 1, -1, most - 1, most, 1 - most, -most} {
		checkEval(t, []api.Term{name("a")}, map[string]answer{"a": {v: v}}, answer{v: v}, "a")
	}
	for _, v := range []int64{most + 1, -most - 1, 2 * most, math.MaxInt64, math.MinInt64, 1 << 62, -1 << 62} {
		answers := map[string]answer{"a": {v: v}, "b": {v: 0}}
		checkEval(t, []api.Term{name("a")}, answers, answer{err: api.ErrRange}, "a")
		checkEval(t, []api.Term{name("a"), neg(0)}, answers, answer{err: api.ErrRange}, "a")
		checkEval(t, []api.Term{name("a"), name("b"), both(api.TMul, 0, 1)}, answers, answer{err: api.ErrRange}, "a")
		checkEval(t, []api.Term{name("b"), name("a"), both(api.TMul, 0, 1)}, answers, answer{err: api.ErrRange}, "b a")
		checkEval(t, []api.Term{name("a"), name("a"), both(api.TSub, 0, 1)}, answers, answer{err: api.ErrRange}, "a")
	}
}

// P15.3: what is asked, and what is wrong first

func TestWhatIsAsked(t *testing.T) {
	answers := map[string]answer{"a": {v: 3}, "b": {v: -7}, "c": {v: 100}}
	checkEval(t, []api.Term{name("a"), name("b"), both(api.TSub, 0, 1)}, answers, answer{v: 10}, "a b")
	checkEval(t, []api.Term{name("a"), name("b"), both(api.TSub, 1, 0)}, answers, answer{v: -10}, "a b")
	checkEval(t, []api.Term{name("b"), name("a"), both(api.TSub, 1, 0)}, answers, answer{v: 10}, "b a")
	// Once for each name term, whether the name or the term is used twice.
	checkEval(t, []api.Term{name("a"), name("a"), both(api.TMul, 0, 1)}, answers, answer{v: 9}, "a a")
	checkEval(t, []api.Term{name("a"), both(api.TMul, 0, 0)}, answers, answer{v: 9}, "a")
	checkEval(t, []api.Term{name("a"), both(api.TMul, 0, 0), both(api.TSub, 1, 0), both(api.TAdd, 2, 2)}, answers, answer{v: 12}, "a")
	checkEval(t, []api.Term{name("a"), name("b"), name("a"), both(api.TAdd, 2, 0), both(api.TSub, 3, 1)}, answers, answer{v: 13}, "a b a")
	checkEval(t, []api.Term{name("c"), neg(0), name("b"), both(api.TAdd, 2, 1), name("a"), both(api.TSub, 4, 3)}, answers, answer{v: 110}, "c b a")
	checkEval(t, []api.Term{number(1)}, answers, answer{v: 1}, "")
}

func TestTermsThatAreNotUsed(t *testing.T) {
	answers := map[string]answer{"a": {v: 3}, "b": {v: -7}, "far": {v: 1 << 50}, "bad": {v: 1, err: api.ErrLoop}}
	great := []api.Term{number(most), both(api.TAdd, 0, 0), both(api.TMul, 0, 0), both(api.TMul, 1, 1), name("far"), name("bad"), name("none"), neg(4), both(api.TAdd, 5, 6)}
	checkEval(t, append(great, number(5)), answers, answer{v: 5}, "")
	checkEval(t, append(great, name("a")), answers, answer{v: 3}, "a")
	checkEval(t, append(great, name("a"), neg(9)), answers, answer{v: -3}, "a")
	checkEval(t, append(great, name("a"), name("b"), both(api.TSub, 10, 0)), answers, answer{err: api.ErrRange}, "b")
	checkEval(t, append(great, name("b"), both(api.TAdd, 0, 9)), answers, answer{v: most - 7}, "b")
	checkEval(t, append(great, name("b"), neg(1)), answers, answer{err: api.ErrRange}, "")
	checkEval(t, append([]api.Term{name("bad"), name("a"), name("far")}, name("b"), both(api.TMul, 1, 3)), answers, answer{v: -21}, "a b")
}

func TestWhatIsWrongFirst(t *testing.T) {
	answers := map[string]answer{"a": {v: 3}, "far": {v: most + 1}, "loop": {err: api.ErrLoop}, "long": {err: api.ErrLong}, "range": {err: api.ErrRange}, "arg": {err: api.ErrArg}}
	for _, x := range []struct {
		first, second string
		want          api.Errno
		asked         string
	}{
		{"loop", "long", api.ErrLoop, "loop"}, {"long", "loop", api.ErrLong, "long"}, {"a", "loop", api.ErrLoop, "a loop"}, {"loop", "a", api.ErrLoop, "loop"}, {"far", "loop", api.ErrRange, "far"}, {"loop", "far", api.ErrLoop, "loop"},
		{"a", "none", api.ErrNone, "a none"}, {"none", "arg", api.ErrNone, "none"}, {"arg", "none", api.ErrArg, "arg"}, {"range", "loop", api.ErrRange, "range"}, {"loop", "loop", api.ErrLoop, "loop"},
	} {
		// It is the order of the indexes that counts, whichever is A.
		checkEval(t, []api.Term{name(x.first), name(x.second), both(api.TAdd, 0, 1)}, answers, answer{err: x.want}, x.asked)
		checkEval(t, []api.Term{name(x.first), name(x.second), both(api.TMul, 1, 0)}, answers, answer{err: x.want}, x.asked)
		checkEval(t, []api.Term{name(x.first), name(x.second), number(0), both(api.TMul, 1, 2), both(api.TSub, 3, 0)}, answers, answer{err: x.want}, x.asked)
	}
	// A term that is out of range stands ahead of a name, or behind it.
	checkEval(t, []api.Term{number(most), both(api.TAdd, 0, 0), name("loop"), both(api.TAdd, 2, 1)}, answers, answer{err: api.ErrRange}, "")
	checkEval(t, []api.Term{number(most), name("loop"), both(api.TAdd, 0, 0), both(api.TAdd, 2, 1)}, answers, answer{err: api.ErrLoop}, "loop")
	checkEval(t, []api.Term{name("loop"), number(most), both(api.TMul, 1, 1), both(api.TAdd, 2, 0)}, answers, answer{err: api.ErrLoop}, "loop")
	checkEval(t, []api.Term{name("a"), number(most), both(api.TAdd, 0, 1), name("long"), both(api.TSub, 3, 2)}, answers, answer{err: api.ErrRange}, "a")
}

func TestErrorsOfValue(t *testing.T) {
	for _, code := range []api.Errno{api.ErrArg, api.ErrNil, api.ErrLong, api.ErrNone, api.ErrRange, api.ErrLoop, api.ErrPlace, 7, 99, -1} {
		// What is told with an error does not count.
		for _, v := range []int64{0, 1, -1, most, most + 1, math.MaxInt64, math.MinInt64} {
			answers := map[string]answer{"a": {v: v, err: code}}
			checkEval(t, []api.Term{name("a")}, answers, answer{err: code}, "a")
			checkEval(t, []api.Term{name("a"), neg(0)}, answers, answer{err: code}, "a")
			checkEval(t, []api.Term{number(2), name("a"), both(api.TMul, 0, 1)}, answers, answer{err: code}, "a")
			checkEval(t, []api.Term{name("a"), number(2)}, answers, answer{v: 2}, "")
		}
	}
}

func TestEvalOfWrongArguments(t *testing.T) {
	for _, e := range [][]api.Term{nil, {}, {{}}, {number(-1)}, {number(most + 1)}, {name("")}, {neg(0)}, {number(1), neg(1)}, {name("a"), both(api.TAdd, 0, 1)}, {name("a"), both(api.TAdd, -1, 0)}, {name("a"), {Kind: 7}, number(1)}, {number(1), {Kind: api.TNeg, B: 1}}, {name("a"), {Kind: api.TNeg, V: 1}}} {
		checkNotRight(t, e)
		if v, err := expr.Eval(e, nil); v != 0 || err != api.ErrArg {
			t.Errorf("%s and nil: %d, %d", told(e), v, err)
		}
	}
	for _, e := range [][]api.Term{{number(1)}, {name("a")}, {number(most), both(api.TAdd, 0, 0)}, {number(1), number(2), both(api.TMul, 0, 1)}} {
		if v, err := expr.Eval(e, nil); v != 0 || err != api.ErrArg {
			t.Errorf("%s and nil: %d, %d", told(e), v, err)
		}
	}
}

// P15.4: the values of the names alone

func TestValuesHangOnNamesAlone(t *testing.T) {
	for _, text := range []string{"a", "-a", "a*b-1", "a-b-a*(b-a)", "(a+b)*(a-b)-a*a+b*b", "b-(a-(b-(a-1)))", "a*1099511627776", "b*b*b*b"} {
		e, _, _ := expr.Parse(tokens(text))
		renamed, _, _ := expr.Parse(tokens(strings.NewReplacer("a", "x.long_name", "b", "a").Replace(text)))
		// Other places and spellings of the same tokens
		spelt, _, _ := expr.Parse(tokens("\t" + strings.NewReplacer("1099511627776", "0x10000000000", "1", " 0x01 ", "a", "  a ").Replace(text)))
		if told(e) != told(spelt) {
			t.Errorf("%s: %s, not %s", text, told(spelt), told(e))
		}
		for a := int64(-4); a <= 4; a++ {
			for b := int64(-4); b <= 4; b++ {
				v, err := expr.Eval(e, value(map[string]int64{"a": a, "b": b, "x.long_name": 77}))
				again, errAgain := expr.Eval(renamed, value(map[string]int64{"x.long_name": a, "a": b}))
				if v != again || err != errAgain {
					t.Errorf("%s of %d, %d: %d, %d, and renamed %d, %d", text, a, b, v, err, again, errAgain)
				}
			}
		}
	}
}

// Rules R1, R3 and R4

// within returns a copy of l with more behind its end, and all of that memory.
func within[T any](l []T, more T) (part, all []T) {
	all = append(slices.Clone(l), more, more, more, more)
	return all[:len(l)], all
}

func TestWhatIsHandedInStays(t *testing.T) {
	for _, text := range []string{"a*(b-1)", "-a*a-b", "1+", "(a b", strings.Repeat("(", 17)} {
		l, all := within(tokens(text), lex.Token{Kind: lex.KSign, Text: "+", V: 5, Line: 6, Col: 7})
		was := slices.Clone(all)
		expr.Parse(l)
		expr.Parse(l[:1])
		if !slices.Equal(all, was) {
			t.Errorf("%s: %v", text, all)
		}
	}
	for _, e := range [][]api.Term{{name("a"), name("b"), name("a"), both(api.TAdd, 0, 1), both(api.TSub, 3, 2), neg(0)}, {name("a"), {}}, {number(most), both(api.TAdd, 0, 0)}, {name("b"), name("c"), neg(1)}} {
		e, all := within(e, number(5))
		was := slices.Clone(all)
		expr.Right(e)
		expr.Names(e)
		expr.Eval(e, value(map[string]int64{"a": 3, "b": 1}))
		if !slices.Equal(all, was) {
			t.Errorf("%s", told(all))
		}
	}
}

func TestNewMemory(t *testing.T) {
	l := tokens("a*(b-1)-a")
	was, _, _ := expr.Parse(l)
	e := slices.Clone(was)
	clear(was[:cap(was)])
	again, n, err := expr.Parse(l)
	if !slices.Equal(again, e) || n != len(l) || err != api.OK {
		t.Errorf("%s, and then %s", told(e), told(again))
	}
	names := expr.Names(e)
	clear(names[:cap(names)])
	checkNames(t, e, "a", "b")
}

func TestTextsAreNotKept(t *testing.T) {
	b := []byte("name")
	s := unsafe.String(&b[0], len(b))
	e, _, _ := expr.Parse([]lex.Token{{Kind: lex.KName, Text: s}})
	names := expr.Names([]api.Term{name(s)})
	if string(b) != "name" {
		t.Errorf("%q", b)
	}
	clear(b)
	if told(e) != "name" || !slices.Equal(names, []string{"name"}) {
		t.Errorf("%q, %q", told(e), names)
	}
}

// The value function may itself evaluate, and may write over what was handed in.
func TestValueMayDoAsItLikes(t *testing.T) {
	outer, _, _ := expr.Parse(tokens("a*b-a"))
	inner, _, _ := expr.Parse(tokens("2*c-1"))
	v, err := expr.Eval(outer, func(s string) (int64, api.Errno) {
		expr.Names(inner)
		return expr.Eval(inner, value(map[string]int64{"c": int64(len(s)) + 3}))
	})
	if v != 42 || err != api.OK {
		t.Errorf("%d, %d", v, err)
	}
	for _, wrong := range []api.Term{{}, both(api.TMul, 1000, -1000), neg(-1), name("z"), number(-5)} {
		e, _, _ := expr.Parse(tokens("a*(b-1)-a"))
		asked := ""
		v, err := expr.Eval(e, func(s string) (int64, api.Errno) {
			asked += s
			for i := range e {
				e[i] = wrong
			}
			return int64(len(asked)) + 2, api.OK
		})
		if v != 4 || err != api.OK || asked != "aba" {
			t.Errorf("%s: %d, %d, %s", told([]api.Term{wrong}), v, err, asked)
		}
	}
}
