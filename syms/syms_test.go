package syms_test

import (
	"fmt"
	"math"
	"runtime/debug"
	"slices"
	"strconv"
	"strings"
	"testing"
	"unsafe"

	"coxless/api"
	"coxless/arrange"
	"coxless/expr"
	"coxless/lex"
	"coxless/prog"
	"coxless/syms"
)

const most = api.MaxValue

// terms are those of a text that is an expression.
func terms(text string) []api.Term {
	l, _ := lex.Split(text)
	e, n, err := expr.Parse(l)
	if n != len(l)-1 || err != api.OK {
		panic(text)
	}
	return e
}

// program is the items of a text that is one.
func program(text string) []api.Item {
	items, diags := prog.Parse(text)
	if len(diags) > 0 {
		panic(text)
	}
	return items
}

func number(v int64) api.Term            { return api.Term{Kind: api.TNumber, V: v} }
func name(s string) api.Term             { return api.Term{Kind: api.TName, Name: s} }
func both(kind uint8, a, b int) api.Term { return api.Term{Kind: kind, A: a, B: b} }
func neg(a int) api.Term                 { return api.Term{Kind: api.TNeg, A: a} }

func label(s string) api.Item {
	return api.Item{Kind: api.ILabel, Name: s}
}

func equ(s string, exprs ...[]api.Term) api.Item {
	return api.Item{Kind: api.IEqu, Name: s, Exprs: exprs}
}

// placed are items, each at a position of its own.
func placed(items ...api.Item) []api.Item {
	for i := range items {
		items[i].Line, items[i].Col = i+1, 2*i+1
	}
	return items
}

func twice(line, col int) api.Diag {
	return api.Diag{Line: line, Col: col, Code: api.ErrTwice}
}

// table is that of items of which none defines a name twice.
func table(t *testing.T, items ...api.Item) *syms.Table {
	t.Helper()
	tab, diags := syms.New(items)
	if tab == nil || len(diags) != 0 {
		t.Fatalf("%v", diags)
	}
	return tab
}

// answer tells what Value returned: a number, or the error by its name.
func answer(v int64, err api.Errno) string {
	s := map[api.Errno]string{api.ErrArg: "arg", api.ErrNone: "none", api.ErrTwice: "twice", api.ErrRange: "range", api.ErrLoop: "loop"}[err]
	switch {
	case err == api.OK:
		return strconv.FormatInt(v, 10)
	case v != 0 || s == "":
		return fmt.Sprintf("%d and the error %d", v, err)
	}
	return s
}

func value(s *syms.Scope, e []api.Term) string {
	return answer(s.Value(e))
}

// checkTerms asks a scope three times for this answer.
func checkTerms(t *testing.T, s *syms.Scope, e []api.Term, want string) {
	t.Helper()
	for range 3 {
		if got := value(s, e); got != want {
			t.Errorf("%.300s: %s, not %s", fmt.Sprint(e), got, want)
		}
	}
}

// check asks a scope for the answers to several texts.
func check(t *testing.T, s *syms.Scope, wants map[string]string) {
	t.Helper()
	for text, want := range wants {
		checkTerms(t, s, terms(text), want)
	}
}

// checkBoth asks scopes with and without places for the same answers.
func checkBoth(t *testing.T, tab *syms.Table, wants map[string]string) {
	t.Helper()
	for _, s := range []*syms.Scope{tab.Const(), tab.At(nil), tab.At([]int64{100, 1, -5, most})} {
		check(t, s, wants)
	}
}

// The chapter's examples

func TestExamples(t *testing.T) {
	tab := table(t, program("a: .equ b,a+4\n.equ c,3*2")...)
	check(t, tab.At([]int64{100, 7, 8}), map[string]string{"a": "100", "b": "104", "c": "6", "d": "none"})
	check(t, tab.Const(), map[string]string{"a": "arg", "b": "arg", "c": "6", "d": "none"})
	checkBoth(t, table(t, program(".equ x,y\n.equ y,x+1")...), map[string]string{"x": "loop", "y": "loop"})
	if _, diags := syms.New(program("a:\nnop\n  a:")); !slices.Equal(diags, []api.Diag{twice(3, 3)}) {
		t.Errorf("%v", diags)
	}
}

// P18.1

func TestProgram(t *testing.T) {
	items := program(`
		.org base
begin:	.equ size, end-begin
		{ r1 = #size; r2 = memw(r3+#0) } :raw
	.equ twice, size*2
mid: also:
		jump begin
		.word mid, twice, -size
	.equ base, 4*1024
		.section data
		.align 4
		.byte 1, 2
		.space size
end:	.equ last, end-1`)
	places := make([]int64, len(items))
	for i := range places {
		places[i] = int64(4096 + 10*i)
	}
	tab := table(t, items...)
	// The items are: 0 .org, 1 begin, 2 size, 3 a packet, 4 twice, 5 mid, 6 also, 7 a packet, 8 .word, 9 base, 10 .section, 11 .align, 12 .byte, 13 .space, 14 end, 15 last.
	check(t, tab.At(places), map[string]string{
		"begin": "4106", "mid": "4146", "also": "4156", "end": "4236", "size": "130", "twice": "260", "base": "4096", "last": "4235",
		"1": "1", "begin+mid": "8252", "size*twice-base": "29704", "-(last-also)*2": "-158", "2*base+3": "8195", "org": "none", "data": "none", "code": "none", "r1": "none", "Begin": "none", "siz": "none", "size.": "none",
	})
	check(t, tab.Const(), map[string]string{
		"begin": "arg", "mid": "arg", "also": "arg", "end": "arg", "size": "arg", "twice": "arg", "base": "4096", "last": "arg",
		"1": "1", "2*base+3": "8195", "end-end": "arg", "0*mid": "arg", "base+size": "arg", "org": "none",
	})
}

func TestOtherItemsDefineNothing(t *testing.T) {
	for kind := range 256 {
		if kind == api.ILabel || kind == api.IEqu {
			continue
		}
		x := api.Item{Kind: uint8(kind), Name: "x", Exprs: [][]api.Term{terms("5")}, Lines: []api.Line{{}}, End0: true, Line: 3, Col: 4}
		checkBoth(t, table(t, x, x), map[string]string{"x": "none", "y": "none", "5": "5"})
		tab := table(t, x, equ("x", terms("7")), x, label("y"), x)
		check(t, tab.At([]int64{1, 2, 3, 4, 5}), map[string]string{"x": "7", "y": "4"})
		check(t, tab.Const(), map[string]string{"x": "7", "y": "arg"})
	}
}

func TestNoItems(t *testing.T) {
	for _, items := range [][]api.Item{nil, {}, {{}}, make([]api.Item, 3)} {
		checkBoth(t, table(t, items...), map[string]string{"x": "none", "1": "1", "2*3-x": "none"})
	}
}

// TestTwice defines one name in up to five items of two kinds in every sequence.
func TestTwice(t *testing.T) {
	for l := range arrange.Sequences([]bool{true, false}, 5) {
		var items []api.Item
		var want []api.Diag
		for i, isLabel := range l {
			item := label("x")
			if !isLabel {
				item = equ("x", terms(strconv.Itoa(50+i)))
			}
			items = append(items, item, label("other"+strconv.Itoa(i)))
			if i > 0 {
				want = append(want, twice(2*i+1, 4*i+1))
			}
		}
		tab, diags := syms.New(placed(items...))
		if !slices.Equal(diags, want) {
			t.Errorf("%v: %v", l, diags)
		}
		at, fixed := "none", "none"
		if len(l) > 0 {
			at, fixed = "50", "50"
			if l[0] {
				at, fixed = "10", "arg"
			}
		}
		checkTerms(t, tab.At([]int64{10, 11, 12, 13, 14, 15, 16, 17, 18}), terms("x"), at)
		checkTerms(t, tab.Const(), terms("x"), fixed)
	}
}

func TestTheFirstOneCounts(t *testing.T) {
	for _, x := range []struct{ text, at, fixed string }{
		{"x: x:", "5", "arg"}, {"x:\n.equ x,1", "5", "arg"}, {".equ x,1\nx:", "1", "1"}, {".equ x,1\n.equ x,2", "1", "1"}, {".equ x,1\n.equ x,x", "1", "1"}, {".equ x,x\n.equ x,1", "loop", "loop"}, {".equ x,u\nx:", "none", "none"},
		{".equ x,y\nx: y:", "7", "arg"}, {".equ x,y\n.equ y,1\ny:\n.equ y,x", "1", "1"}, {"x: x: x:\n.equ x,3", "5", "arg"},
	} {
		tab, diags := syms.New(program(x.text))
		if len(diags) == 0 {
			t.Errorf("%q: no diagnostic", x.text)
		}
		checkTerms(t, tab.At([]int64{5, 6, 7, 8}), terms("x"), x.at)
		checkTerms(t, tab.Const(), terms("x"), x.fixed)
	}
	tab, _ := syms.New([]api.Item{equ("x"), equ("x", terms("1"))})
	checkBoth(t, tab, map[string]string{"x": "arg"})
	tab, _ = syms.New([]api.Item{equ("x", nil), label("x")})
	checkBoth(t, tab, map[string]string{"x": "arg"})
}

func TestDiagnosticsInTheOrderOfTheItems(t *testing.T) {
	_, diags := syms.New(program("a: b: a:\n.equ b,1\n .equ c,a\nb: c: d:\n.equ a,a"))
	if want := []api.Diag{twice(1, 7), twice(2, 1), twice(4, 1), twice(4, 4), twice(5, 1)}; !slices.Equal(diags, want) {
		t.Errorf("%v", diags)
	}
	// The positions of items that are handed in may be any.
	items := []api.Item{{Kind: 1, Name: "a", Line: 9, Col: 9}, {Kind: 8, Name: "a", Line: 7, Col: 3}, {Kind: 1, Name: "b", Line: 7, Col: 3}, {Kind: 1, Name: "b", Line: 7, Col: 3}, {Kind: 1, Name: "a"}, {Kind: 8, Name: "b", Line: -5, Col: math.MaxInt64}, {Kind: 1, Name: "c", Line: 1, Col: 1}}
	_, diags = syms.New(items)
	if want := []api.Diag{twice(7, 3), twice(7, 3), twice(0, 0), twice(-5, math.MaxInt64)}; !slices.Equal(diags, want) {
		t.Errorf("%v", diags)
	}
}

func TestMoreDiagnosticsThanOtherLayersTell(t *testing.T) {
	const n = 50 * api.MaxDiags
	items := placed(slices.Repeat([]api.Item{label("x"), equ("x", terms("1")), label("y")}, n)...)
	tab, diags := syms.New(items)
	if len(diags) != 3*n-2 || diags[0] != twice(2, 3) || diags[1] != twice(4, 7) || diags[2] != twice(5, 9) || diags[3*n-3] != twice(3*n, 6*n-1) {
		t.Errorf("%d: %v..", len(diags), diags[:min(len(diags), 4)])
	}
	check(t, tab.At([]int64{8, 9, 10}), map[string]string{"x": "8", "y": "10"})
}

// TestNames takes names that differ little, and some that no program has.
func TestNames(t *testing.T) {
	names := []string{"", "a", "A", "aa", "a.", ".a", "_a", "a_", "a ", " ", "r1", "p0.new", "nop", "+", "a+a", "\x00", "a\x00", "\xff", "ä", strings.Repeat("a", 32), strings.Repeat("a", 33)}
	var items []api.Item
	for i, s := range names {
		items = append(items, equ(s, []api.Term{number(int64(100 + i))}))
	}
	tab := table(t, items...)
	labels := slices.Clone(items)
	for i, s := range names {
		labels[i] = label(s)
		want := strconv.Itoa(100 + i)
		if s == "" {
			want = "arg" // An expression can't have that name.
		}
		checkTerms(t, tab.Const(), []api.Term{name(s)}, want)
		checkTerms(t, tab.At(nil), []api.Term{name(s)}, want)
	}
	_, diags := syms.New(placed(slices.Concat(items, labels)...))
	if n := len(names); len(diags) != n || diags[0] != twice(n+1, 2*n+1) || diags[n-1] != twice(2*n, 4*n-1) {
		t.Errorf("%v", diags)
	}
	for i, s := range names[1:] {
		places := make([]int64, len(names))
		places[i+1] = 77
		checkTerms(t, table(t, labels...).At(places), []api.Term{name(s)}, "77")
	}
	checkTerms(t, tab.Const(), terms("aaa"), "none")
}

// P18.2: places

func TestPlaces(t *testing.T) {
	items := program("a: b:\nnop\nc:\n.org 5\n.equ n,d-a\nd:")
	all := []int64{11, 23, 37, 41, 53, 67, 71, 83, 97}
	for n := range len(all) + 1 {
		at := func(i int) string {
			if i >= n {
				return "0"
			}
			return strconv.FormatInt(all[i], 10)
		}
		tab := table(t, items...)
		s := tab.At(all[:n])
		check(t, s, map[string]string{"a": at(0), "b": at(1), "c": at(3), "d": at(6), "u": "none"})
		v, err := s.Value(terms("d"))
		w, _ := s.Value(terms("a"))
		checkTerms(t, s, terms("n"), answer(v-w, err))
	}
	tab := table(t, items...)
	for _, s := range []*syms.Scope{tab.At(nil), tab.At([]int64{})} {
		check(t, s, map[string]string{"a": "0", "b": "0", "c": "0", "d": "0", "n": "0", "d-a+1": "1"})
	}
}

func TestPlacesAtTheBounds(t *testing.T) {
	tab := table(t, program("x:\n.equ y,x\n.equ z,0*x\n.equ w,-y")...)
	for _, v := range []int64{0, 1, -1, 4, most - 1, most, 1 - most, -most, 1 << 32} {
		s := tab.At([]int64{v})
		check(t, s, map[string]string{"x": answer(v, api.OK), "y": answer(v, api.OK), "z": "0", "w": answer(-v, api.OK), "-x": answer(-v, api.OK), "x-x": "0"})
	}
	for _, v := range []int64{most + 1, -most - 1, 2 * most, 1 << 62, -1 << 62, math.MaxInt64, math.MinInt64} {
		check(t, tab.At([]int64{v}), map[string]string{"x": "range", "y": "range", "z": "range", "w": "range", "x-x": "range", "0*y": "range", "u+x": "none", "x+u": "range", "1": "1"})
		check(t, tab.At([]int64{5, v, v, v, v}), map[string]string{"x": "5", "y": "5", "z": "0", "w": "-5"})
	}
}

func TestManyLabels(t *testing.T) {
	const n = 1 << 12
	var items []api.Item
	var places []int64
	for i := range n {
		items = append(items, label("l"+strconv.Itoa(i)), equ("e"+strconv.Itoa(i), terms(fmt.Sprintf("l%d*2-l%d", i, n-1-i))))
		places = append(places, int64(i*i), -1)
	}
	tab := table(t, items...)
	at, fixed := tab.At(places), tab.Const()
	for i := range n {
		l, e := terms("l"+strconv.Itoa(i)), terms("e"+strconv.Itoa(i))
		checkTerms(t, at, l, strconv.Itoa(i*i))
		checkTerms(t, at, e, strconv.Itoa(2*i*i-(n-1-i)*(n-1-i)))
		checkTerms(t, fixed, l, "arg")
		checkTerms(t, fixed, e, "arg")
	}
}

// P18.2: values

func TestForwardAndBackward(t *testing.T) {
	lines := []string{"l:", ".equ a,b*2+c", ".equ b,c+1", ".equ c,7", ".equ d,a-l", ".equ e,d+l-a"}
	for order := range arrange.Orders(lines) {
		items := program(strings.Join(order, "\n"))
		var places []int64
		for _, item := range items {
			places = append(places, int64(20*item.Kind))
		}
		tab := table(t, items...)
		check(t, tab.At(places), map[string]string{"a": "23", "b": "8", "c": "7", "d": "3", "e": "0", "l": "20", "a*b-d": "181", "-c+l": "13"})
		check(t, tab.Const(), map[string]string{"a": "23", "b": "8", "c": "7", "d": "arg", "e": "arg", "l": "arg", "a*b": "184", "a*b-d": "arg"})
	}
}

func TestLoops(t *testing.T) {
	for text, want := range map[string]map[string]string{
		".equ x,x":                               {"x": "loop", "x-x": "loop", "1+x": "loop", "y": "none"},
		".equ x,-(x*0)+1":                        {"x": "loop"},
		".equ x,y\n.equ y,x":                     {"x": "loop", "y": "loop", "y+x": "loop"},
		".equ x,y\n.equ y,z\n.equ z,x":           {"x": "loop", "y": "loop", "z": "loop"},
		".equ x,1+y\n.equ y,y":                   {"x": "loop", "y": "loop"},
		".equ w,x\n.equ x,y\n.equ y,z\n.equ z,y": {"w": "loop", "x": "loop", "y": "loop", "z": "loop"},
		".equ x,a+y\n.equ y,b-x\n.equ a,1\n.equ b,2\n.equ c,a*b+b": {"x": "loop", "y": "loop", "a": "1", "b": "2", "c": "4", "c+x": "loop"},
		// Two loops that have a name in common, and two that are joined.
		".equ x,y+z\n.equ y,x\n.equ z,x":              {"x": "loop", "y": "loop", "z": "loop"},
		".equ a,b\n.equ b,a\n.equ c,d\n.equ d,c+a":    {"a": "loop", "b": "loop", "c": "loop", "d": "loop"},
		".equ a,b\n.equ b,a+c\n.equ c,d\n.equ d,c":    {"a": "loop", "b": "loop", "c": "loop", "d": "loop"},
		".equ a,n+b\n.equ b,n*n\n.equ n,3\n.equ c,-c": {"a": "12", "b": "9", "c": "loop", "a+c": "loop"},
	} {
		checkBoth(t, table(t, program(text)...), want)
	}
}

// TestLongLoops has loops of n names, with more names that lead to them.
func TestLongLoops(t *testing.T) {
	for n := 1; n <= 12; n++ {
		var lines []string
		wants := map[string]string{}
		for i := range 2 * n {
			next := i + 1
			if next == 2*n {
				next = n
			}
			lines = append(lines, fmt.Sprintf(".equ n%d,n%d+%d", i, next, i))
			wants[fmt.Sprintf("n%d", i)] = "loop"
		}
		checkBoth(t, table(t, program(strings.Join(lines, "\n"))...), wants)
		slices.Reverse(lines)
		checkBoth(t, table(t, program(strings.Join(lines, "\n"))...), wants)
	}
}

// TestWaysThatEndAheadOfALoop has names that would depend on themselves if nothing else were wrong ahead of it.
func TestWaysThatEndAheadOfALoop(t *testing.T) {
	for text, want := range map[string]map[string]string{
		".equ x,u+x":                                     {"x": "none"},
		".equ x,x+u":                                     {"x": "loop"},
		".equ x,1099511627776*2+x":                       {"x": "range"},
		".equ x,x+1099511627776*2":                       {"x": "loop"},
		".equ x,y\n.equ y,u+x":                           {"x": "none", "y": "none"},
		".equ x,y+u\n.equ y,x":                           {"x": "loop", "y": "loop"},
		".equ x,u+y\n.equ y,x":                           {"x": "none", "y": "none"},
		".equ x,y\n.equ y,z\n.equ z,u*x":                 {"x": "none", "y": "none", "z": "none"},
		".equ x,y\n.equ y,1099511627776+1-z\n.equ z,x+u": {"x": "range", "y": "range", "z": "range"},
		".equ x,y+z\n.equ y,u+x\n.equ z,z":               {"x": "none", "y": "none", "z": "loop"},
		".equ x,z+y\n.equ y,u+x\n.equ z,z":               {"x": "loop", "y": "none", "z": "loop"},
		".equ x,z+y\n.equ y,x+u\n.equ z,u+z":             {"x": "none", "y": "none", "z": "none"},
		".equ a,b\n.equ b,u-c\n.equ c,d\n.equ d,b":       {"a": "none", "b": "none", "c": "none", "d": "none"},
	} {
		checkBoth(t, table(t, program(text)...), want)
	}
	tab := table(t, program("l:\n.equ x,l+x\n.equ y,x\n.equ z,l*y+z")...)
	check(t, tab.Const(), map[string]string{"x": "arg", "y": "arg", "z": "arg"})
	check(t, tab.At(nil), map[string]string{"x": "loop", "y": "loop", "z": "loop"})
	check(t, tab.At([]int64{most + 1}), map[string]string{"x": "range", "y": "range", "z": "range"})
}

// TestTheOrderOfAskingDoesNotMatter asks for loops of several lengths and what leads to them from each name first.
func TestTheOrderOfAskingDoesNotMatter(t *testing.T) {
	for text, want := range map[string]map[string]string{
		".equ a,b+c\n.equ b,c\n.equ c,a+u\n.equ d,u-a":           {"a": "loop", "b": "loop", "c": "loop", "d": "none"},
		".equ a,b\n.equ b,c+d\n.equ c,u+a\n.equ d,b":             {"a": "none", "b": "none", "c": "none", "d": "none"},
		".equ a,b\n.equ b,c+d\n.equ c,1\n.equ d,b":               {"a": "loop", "b": "loop", "c": "1", "d": "loop"},
		".equ a,d+b\n.equ b,a\n.equ c,b+d\n.equ d,2*2":           {"a": "loop", "b": "loop", "c": "loop", "d": "4"},
		".equ a,b+b\n.equ b,c+c\n.equ c,d+d\n.equ d,3":           {"a": "24", "b": "12", "c": "6", "d": "3"},
		".equ a,b\n.equ b,u+c\n.equ c,d+u\n.equ d,c*0":           {"a": "none", "b": "none", "c": "loop", "d": "loop"},
		".equ a,c\n.equ b,a\n.equ c,d+b\n.equ d,u*c":             {"a": "none", "b": "none", "c": "none", "d": "none"},
		".equ a,b*1099511627776\n.equ b,c\n.equ c,2\n.equ d,a+d": {"a": "range", "b": "2", "c": "2", "d": "range"},
	} {
		tab := table(t, program(text)...)
		for order := range arrange.Orders([]string{"a", "b", "c", "d"}) {
			for _, s := range []*syms.Scope{tab.Const(), tab.At(nil)} {
				for _, x := range order {
					checkTerms(t, s, terms(x), want[x])
				}
			}
		}
	}
}

func TestEquWithoutExpressions(t *testing.T) {
	for _, exprs := range [][][]api.Term{nil, {}, {nil}, {{}}, {nil, terms("1")}, {{}, terms("1"), terms("2")}} {
		checkBoth(t, table(t, equ("x", exprs...), equ("y", terms("x")), equ("z", terms("1"))), map[string]string{"x": "arg", "y": "arg", "z": "1", "z+y": "arg", "u+x": "none", "x+u": "arg"})
	}
}

func TestEquOfSeveralExpressions(t *testing.T) {
	for _, more := range [][][]api.Term{{terms("9")}, {nil}, {terms("x")}, {{{}}}, {terms("u"), terms("8")}, {terms("y"), nil, terms("1099511627776*2")}} {
		x := equ("x", append([][]api.Term{terms("y*2")}, more...)...)
		checkBoth(t, table(t, x, equ("y", terms("3"))), map[string]string{"x": "6", "y": "3"})
	}
	checkBoth(t, table(t, equ("x", terms("x"), terms("1"))), map[string]string{"x": "loop"})
	checkBoth(t, table(t, equ("x", terms("u"), terms("1"))), map[string]string{"x": "none"})
}

func TestLabelsHaveNoExpression(t *testing.T) {
	x := api.Item{Kind: api.ILabel, Name: "x", Exprs: [][]api.Term{terms("5")}}
	tab := table(t, x, equ("y", terms("x")))
	check(t, tab.At([]int64{8, 9}), map[string]string{"x": "8", "y": "8"})
	check(t, tab.Const(), map[string]string{"x": "arg", "y": "arg"})
}

func TestEquThatDependsOnALabel(t *testing.T) {
	tab := table(t, program(".equ a,b\n.equ b,c*2\nl:\n.equ c,0*l\n.equ d,4\n.equ e,d-d*l\n.equ f,f+l\n.equ g,l+f")...)
	check(t, tab.Const(), map[string]string{"a": "arg", "b": "arg", "c": "arg", "d": "4", "e": "arg", "f": "loop", "g": "arg", "l": "arg", "l-l": "arg", "l+u": "arg", "u+l": "none", "d*d": "16", "d+a": "arg"})
	check(t, tab.At([]int64{0, 0, 3}), map[string]string{"a": "0", "b": "0", "c": "0", "d": "4", "e": "-8", "f": "loop", "g": "loop", "l": "3", "l-l": "0", "l+u": "none"})
}

func TestRange(t *testing.T) {
	checkBoth(t, table(t, program(`
.equ most, 1099511627776
.equ least, -most
.equ half, 549755813888
.equ root, 1048576
.equ above, most+1
.equ below, least-1
.equ back, above-1
.equ never, 0*above
.equ big, most*most
`)...), map[string]string{
		"most": "1099511627776", "least": "-1099511627776", "most-1": "1099511627775", "least+1": "-1099511627775", "half+half": "1099511627776", "half*2": "1099511627776", "root*root": "1099511627776", "-root*root": "-1099511627776", "-least": "1099511627776", "most+least": "0", "0-most": "-1099511627776",
		"above": "range", "below": "range", "back": "range", "never": "range", "big": "range", "most+1": "range", "1+most": "range", "least-1": "range", "most-least": "range", "least-most": "range", "(root+1)*root": "range", "half+half+1": "range", "most+1-1": "range", "most*most": "range", "most*16777216": "range", "0*big": "range", "-above": "range",
	})
}

func TestExpressionsThatAreNotValid(t *testing.T) {
	tab := table(t, equ("a", terms("2")), label("l"))
	for _, e := range [][]api.Term{
		nil, {}, {{}}, {{Kind: 7}}, {number(-1)}, {number(most + 1)}, {name("")}, {neg(0)}, {number(1), neg(1)}, {number(1), neg(-1)}, {number(1), both(api.TAdd, 0, 1)}, {number(1), both(api.TMul, 2, 0)}, {number(1), both(api.TSub, 0, -1)},
		{{Kind: api.TNumber, V: 1, Name: "a"}}, {{Kind: api.TName, Name: "a", V: 1}}, {{Kind: api.TName, Name: "a", A: 1}}, {number(1), {Kind: api.TNeg, B: 1}}, {number(1), {Kind: api.TNeg, Name: "u"}}, {name("a"), {Kind: 255}, number(1)}, {name("u"), {}}, {name("x"), name("")}, {neg(0), number(1)}, {name("l"), number(-1), name("u")},
	} {
		checkTerms(t, tab.Const(), e, "arg")
		checkTerms(t, tab.At([]int64{1, 1}), e, "arg")
		checkTerms(t, (*syms.Scope)(nil), e, "arg")
		// As that of an .equ it is the same, whatever it names.
		checkBoth(t, table(t, equ("x", e), equ("y", terms("x+u")), equ("z", terms("u+x")), equ("a", terms("1"))), map[string]string{"x": "arg", "y": "arg", "z": "none", "a": "1"})
	}
}

func TestTermsThatAreNotUsed(t *testing.T) {
	checkBoth(t, table(t,
		equ("x", []api.Term{name("x"), name("u"), name("y"), both(api.TAdd, 0, 1), number(5)}),
		equ("y", []api.Term{number(most), both(api.TMul, 0, 0), name("x"), name("z"), neg(2)}),
		equ("z", []api.Term{name("z"), name("y"), number(3), both(api.TSub, 1, 2)}),
		equ("w", []api.Term{name("w"), name("z"), name("u"), neg(0), neg(1)}),
	), map[string]string{"x": "5", "y": "-5", "z": "-8", "w": "8"})
	tab := table(t, equ("x", terms("x")), equ("y", terms("1")), label("l"))
	for _, s := range []*syms.Scope{tab.Const(), tab.At([]int64{0, 0, most + 1})} {
		checkTerms(t, s, []api.Term{name("x"), name("u"), name("l"), number(most), both(api.TAdd, 3, 3), name("y")}, "1")
		checkTerms(t, s, []api.Term{name("x"), name("y"), both(api.TAdd, 0, 1), neg(1)}, "-1")
	}
}

// joined is the answer to two parts, the first of which is evaluated first, if neither is wrong this one.
func joined(first, second, right string) string {
	for _, part := range []string{first, second} {
		if _, err := strconv.Atoi(part); err != nil {
			return part
		}
	}
	return right
}

// TestTheErrorThatIsFoundFirst joins each two parts that are wrong, or right, in several ways.
func TestTheErrorThatIsFoundFirst(t *testing.T) {
	items := program("l:\n.equ one,1\n.equ loop,loop\n.equ two,loop+2\n.equ none,u\n.equ range,most*2\n.equ most,1099511627776\n.equ lab,l")
	tab := table(t, append(items, equ("arg"))...)
	parts := map[string]string{"u": "none", "none": "none", "loop": "loop", "two": "loop", "range": "range", "most+1": "range", "arg": "arg", "l": "arg", "lab": "arg", "1": "1", "one": "1"}
	for a, first := range parts {
		for b, second := range parts {
			for sign, right := range map[string]string{"-": "0", "+": "2", "*": "1"} {
				e, want := "("+a+")"+sign+"("+b+")", joined(first, second, right)
				checkTerms(t, tab.Const(), terms(e), want)
				checkTerms(t, tab.Const(), terms("-("+e+")*u"), joined(want, "none", ""))
				checkTerms(t, tab.Const(), terms("u-"+e), "none")
			}
		}
	}
	// Terms are evaluated by their indexes, not as they are written.
	l := []api.Term{name("loop"), name("u"), name("arg")}
	checkTerms(t, tab.At(nil), append(l, both(api.TAdd, 1, 0)), "loop")
	checkTerms(t, tab.At(nil), append(l, both(api.TAdd, 2, 1)), "none")
	checkTerms(t, tab.At(nil), append(l, both(api.TAdd, 2, 2)), "arg")
	checkTerms(t, tab.At(nil), append(l, both(api.TAdd, 2, 1), both(api.TMul, 3, 0)), "loop")
}

// Scopes

func TestScopesOfOneTable(t *testing.T) {
	tab := table(t, program("l:\n.equ a,l+1\n.equ b,a*2\n.equ c,4\n.equ d,d+l")...)
	one, fixed, two, none := tab.At([]int64{10}), tab.Const(), tab.At([]int64{20, 5}), tab.At(nil)
	for range 3 {
		check(t, one, map[string]string{"l": "10", "a": "11", "b": "22", "c": "4", "d": "loop"})
		check(t, two, map[string]string{"l": "20", "a": "21", "b": "42", "c": "4", "d": "loop"})
		check(t, fixed, map[string]string{"l": "arg", "a": "arg", "b": "arg", "c": "4", "d": "loop"})
		check(t, none, map[string]string{"l": "0", "a": "1", "b": "2", "c": "4", "d": "loop"})
		check(t, tab.At([]int64{30}), map[string]string{"b": "62"})
		check(t, tab.Const(), map[string]string{"b": "arg", "c": "4"})
	}
	other := table(t, program(".equ l,100\n.equ a,l")...)
	check(t, other.At([]int64{1}), map[string]string{"l": "100", "a": "100", "b": "none"})
	check(t, one, map[string]string{"l": "10", "a": "11", "b": "22"})
}

func TestNoTableAndNoScope(t *testing.T) {
	var noTable *syms.Table
	var noScope *syms.Scope
	for _, s := range []*syms.Scope{noScope, noTable.At(nil), noTable.At([]int64{1, 2}), noTable.Const(), {}, (&syms.Table{}).At(nil), (&syms.Table{}).At([]int64{1, 2}), (&syms.Table{}).Const()} {
		check(t, s, map[string]string{"a": "none", "1": "1", "1-2*3": "-5", "1+a": "none", "1099511627776*2+a": "range", "a+1099511627776*2": "none"})
		checkTerms(t, s, nil, "arg")
		checkTerms(t, s, []api.Term{name("a"), number(2)}, "2")
	}
}

// What is nested deep, and how long it may take

// limitStack lets calls be nested no deeper than that many bytes, till the test ends.
func limitStack(t *testing.T, bytes int) {
	was := debug.SetMaxStack(bytes)
	t.Cleanup(func() { debug.SetMaxStack(was) })
}

// chain is n .equ, each with this expression, in which n stands for the next one.
func chain(n int, text string) []api.Item {
	e := terms(text)
	var items []api.Item
	for i := range n {
		next := slices.Clone(e)
		for j := range next {
			if next[j].Name == "n" {
				next[j].Name = "n" + strconv.Itoa(i+1)
			}
		}
		items = append(items, equ("n"+strconv.Itoa(i), next))
	}
	return items
}

func TestLongChains(t *testing.T) {
	limitStack(t, 1<<22)
	const n = 1 << 16
	for _, x := range []struct{ text, last, want string }{
		{"n-n", "7", "0"}, {"n+1", "7", strconv.Itoa(n + 7)}, {"n*n", "1", "1"}, {"0-n", "3", "3"}, {"n-n+n", "u", "none"}, {"n+n", "1", "range"}, {"u+n", "1", "none"}, {"n*n", "n0", "loop"}, {"n-n", "n1000", "loop"}, {"n+n+u", "n0", "loop"},
	} {
		items := append(chain(n, x.text), equ("n"+strconv.Itoa(n), terms(x.last)))
		checkTerms(t, table(t, items...).Const(), terms("n0"), x.want)
		slices.Reverse(items)
		s := table(t, items...).At([]int64{1, 2, 3})
		checkTerms(t, s, terms("n0"), x.want)
		checkTerms(t, s, terms(fmt.Sprintf("n0-n0+n%d-n%d", n/2, n/2)), joined(x.want, "0", "0"))
	}
}

func TestChainsOfALabel(t *testing.T) {
	limitStack(t, 1<<24)
	const n = 1 << 16
	items := append(chain(n, "2*n-n"), label("n"+strconv.Itoa(n)))
	tab := table(t, items...)
	places := make([]int64, n+1)
	for _, v := range []int64{0, 5, -most / 2, most / 2} {
		places[n] = v
		checkTerms(t, tab.At(places), terms("n0"), answer(v, api.OK))
	}
	places[n] = most/2 + 1
	checkTerms(t, tab.At(places), terms("n0"), "range")
	checkTerms(t, tab.At(places[:n]), terms("n0"), "0")
	checkTerms(t, tab.Const(), terms("n0"), "arg")
}

// TestEachNeedsAllOthers has names of which each one stands in all others, or in all those ahead of it.
func TestEachNeedsAllOthers(t *testing.T) {
	const n = 300
	var ring, stairs []api.Item
	for i := range n {
		var others, behind []string
		for j := range n {
			if j != i {
				others = append(others, "n"+strconv.Itoa(j))
			}
			if j > i {
				behind = append(behind, "n"+strconv.Itoa(j)+"-n"+strconv.Itoa(j))
			}
		}
		ring = append(ring, equ("n"+strconv.Itoa(i), terms(strings.Join(others, "+"))))
		stairs = append(stairs, equ("n"+strconv.Itoa(i), terms(strings.Join(append(behind, strconv.Itoa(i)), "+"))))
	}
	up, down := table(t, ring...).Const(), table(t, stairs...).At(nil)
	for i := range n {
		checkTerms(t, up, terms("n"+strconv.Itoa(i)), "loop")
		checkTerms(t, down, terms("n"+strconv.Itoa(i)), strconv.Itoa(i))
	}
}

func TestManyNamesInOneExpression(t *testing.T) {
	const n = 1 << 14
	var items []api.Item
	var names []string
	for i := range n {
		s := "n" + strconv.Itoa(i)
		names = append(names, s)
		items = append(items, equ(s, terms(strconv.Itoa(i)+"+k")))
	}
	sum := strings.Join(names, "+")
	items = append(items, equ("k", terms("2")), equ("sum", terms(sum)), equ("wrong", terms(sum+"+wrong")))
	want := strconv.Itoa(n*(n-1)/2 + 2*n)
	checkBoth(t, table(t, items...), map[string]string{sum: want, "sum": want, sum + "-sum": "0", "wrong": "loop", sum + "+u": "none"})
}

// P18.3: what is not needed

func TestWhatIsNotNeededDoesNotMatter(t *testing.T) {
	items := program(".equ a,b+l\n.equ b,c*2\n.equ c,4\nl:\n.equ d,c-d\n.equ e,u+d")
	for _, other := range []func(name string) api.Item{
		func(string) api.Item { return api.Item{} },
		func(string) api.Item { return equ("z", []api.Term{{}}) },
		func(name string) api.Item { return equ(name) },
		func(name string) api.Item { return equ(name, terms(name)) },
		func(name string) api.Item { return equ(name, terms("a+e-1099511627776*2")) },
		func(name string) api.Item { return label(name) },
	} {
		for _, x := range []struct{ text, needs, at, fixed string }{
			{"a", "abcl", "18", "arg"}, {"b", "bc", "8", "8"}, {"c", "c", "4", "4"}, {"l", "l", "10", "arg"}, {"d", "cd", "loop", "loop"}, {"e", "e", "none", "none"}, {"1", "", "1", "1"}, {"c-b", "bc", "-4", "-4"},
		} {
			changed := slices.Clone(items)
			for i, item := range changed {
				if !strings.Contains(x.needs, item.Name) {
					changed[i] = other(item.Name)
				}
			}
			tab, _ := syms.New(changed)
			checkTerms(t, tab.At([]int64{1, 2, 3, 10, 5, 6}), terms(x.text), x.at)
			checkTerms(t, tab.Const(), terms(x.text), x.fixed)
		}
	}
}

// The rules R3 and R4

// roomy is a copy of a list with something else behind its end.
func roomy[T any](l []T, more T) []T {
	l = append(slices.Clone(l), more, more, more)
	return l[:len(l)-3]
}

// roomyItems are items all of whose lists have something else behind their ends.
func roomyItems(text string) []api.Item {
	items := program(text)
	for i := range items {
		for j, e := range items[i].Exprs {
			items[i].Exprs[j] = roomy(e, number(99))
		}
		items[i].Exprs = roomy(items[i].Exprs, terms("98"))
	}
	return roomy(items, equ("z", terms("97")))
}

// whole tells items and all that is behind the ends of their lists.
func whole(items []api.Item) string {
	out := ""
	for _, item := range items[:cap(items)] {
		out += fmt.Sprintf("%+v\n", item)
		for _, e := range item.Exprs[:cap(item.Exprs)] {
			out += fmt.Sprintf("\t%+v\n", e[:cap(e)])
		}
	}
	return out
}

const several = "l:\n.equ a,b*2+l\n.equ b,c-1\n.equ c,5\na:\n.equ d,e\n.equ e,d\n.word a,b"

func severalValues() map[string]string {
	return map[string]string{"l": "10", "a": "18", "b": "4", "c": "5", "d": "loop", "e": "loop", "z": "none", "a*b-c": "67"}
}

func TestWhatIsHandedInStays(t *testing.T) {
	items := roomyItems(several)
	places := roomy([]int64{10, 20, 30}, 77)
	was := whole(items)
	tab, diags := syms.New(items)
	s := tab.At(places)
	check(t, s, severalValues())
	for text, want := range severalValues() {
		e := roomy(terms(text), name("z"))
		before := fmt.Sprint(e[:cap(e)])
		checkTerms(t, s, e, want)
		value(tab.Const(), e)
		if after := fmt.Sprint(e[:cap(e)]); after != before {
			t.Errorf("%s: %s", text, after)
		}
	}
	if got := whole(items); got != was {
		t.Errorf("%s", got)
	}
	if !slices.Equal(places[:cap(places)], roomy([]int64{10, 20, 30}, 77)[:cap(places)]) {
		t.Errorf("%v", places[:cap(places)])
	}
	if !slices.Equal(diags, []api.Diag{twice(5, 1)}) {
		t.Errorf("%v", diags)
	}
}

// spoil changes all that belongs to items.
func spoil(items []api.Item) {
	all := items[:cap(items)]
	for i, item := range all {
		for _, e := range item.Exprs[:cap(item.Exprs)] {
			e = e[:cap(e)]
			for k := range e {
				e[k] = number(66)
			}
		}
		clear(item.Exprs[:cap(item.Exprs)])
		all[i] = equ("z", terms("5"))
	}
}

func TestWhatIsChangedLater(t *testing.T) {
	for when := range 4 {
		items := roomyItems(several)
		places := []int64{10, 20, 30, 40, 50, 60}
		tab, _ := syms.New(items)
		if when == 0 {
			spoil(items)
		}
		s := tab.At(places)
		if when == 1 {
			spoil(items)
		}
		if when <= 2 {
			clear(places)
		}
		e := terms("a")
		checkTerms(t, s, e, "18")
		e[0] = name("z")
		check(t, s, map[string]string{"a": "18"})
		spoil(items)
		clear(places)
		check(t, s, severalValues())
		check(t, tab.At([]int64{10}), severalValues())
		check(t, tab.Const(), map[string]string{"l": "arg", "a": "arg", "b": "4", "d": "loop", "z": "none"})
	}
}

func TestNewMemory(t *testing.T) {
	items := program("a: a: a: b: b:")
	want := []api.Diag{twice(1, 4), twice(1, 7), twice(1, 13)}
	_, diags := syms.New(items)
	clear(diags[:cap(diags)])
	if _, again := syms.New(items); !slices.Equal(again, want) {
		t.Errorf("%v", again)
	}
	tab := table(t, program("a:")...)
	if one, two := tab.At(nil), tab.At(nil); one == two || tab.Const() == one || tab.Const() == tab.Const() {
		t.Errorf("a scope is given out twice")
	}
}

// TestTextsAreNotKept changes the bytes of names that were handed in.
func TestTextsAreNotKept(t *testing.T) {
	b := []byte("onetwo")
	one, two := unsafe.String(&b[0], 3), unsafe.String(&b[3], 3)
	tab := table(t, equ(one, []api.Term{name(two), number(1), both(api.TAdd, 0, 1)}), label(two))
	s := tab.At([]int64{0, 40})
	checkTerms(t, s, []api.Term{name(one), name(two), both(api.TMul, 0, 1)}, "1640")
	if string(b) != "onetwo" {
		t.Errorf("%q", b)
	}
	clear(b)
	check(t, s, map[string]string{"one": "41", "two": "40", "three": "none"})
	check(t, tab.At([]int64{0, 50}), map[string]string{"one": "51", "two": "50"})
}
