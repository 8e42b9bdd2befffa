package parse_test

import (
	"fmt"
	"math"
	"slices"
	"strings"
	"testing"
	"unsafe"

	"coxless/api"
	"coxless/expr"
	"coxless/inst"
	"coxless/isa"
	"coxless/lex"
	"coxless/parse"
)

// tokens are those of one line, without its end.
func tokens(text string) []lex.Token {
	l, _ := lex.Split(text)
	return l[:len(l)-1]
}

// terms are those of a text that is an expression, or none of no text.
func terms(text string) []api.Term {
	e, n, err := expr.Parse(tokens(text))
	if text != "" && (n != len(tokens(text)) || err != api.OK) {
		panic(text)
	}
	return e
}

func isSame(a, b api.Line) bool {
	return a.Inst == b.Inst && slices.Equal(a.Value, b.Value) && slices.Equal(a.Count, b.Count) && a.Forced == b.Forced && a.Line == b.Line && a.Col == b.Col
}

func told(l []lex.Token) string {
	var out []string
	for _, k := range l {
		if k.Kind == lex.KEnd && k.Text == "" {
			k.Text = "|"
		}
		out = append(out, fmt.Sprintf("%d:%s", k.Kind, k.Text))
	}
	return fmt.Sprintf("%.300s", strings.Join(out, " "))
}

// checkTokens asks for this line of the first n tokens, and for what P16.2 says of it.
func checkTokens(t *testing.T, l []lex.Token, want api.Line, n int) {
	t.Helper()
	line, got, err := parse.Inst(l)
	if !isSame(line, want) || got != n || err != api.OK {
		t.Errorf("%s: %+v, %d, %d, not %+v, %d", told(l), line, got, err, want, n)
		return
	}
	if alone, m, err := parse.Inst(l[:n:n]); !isSame(alone, want) || m != n || err != api.OK {
		t.Errorf("%s: alone %+v, %d, %d", told(l), alone, m, err)
	}
	if _, known := isa.Of(line.Inst.Op); !known || !inst.Right(line.Inst) {
		t.Errorf("%s: %+v is not valid", told(l), line.Inst)
	}
	_, _, hasValue := isa.At(line.Inst.Op, isa.KImm)
	_, _, hasTarget := isa.At(line.Inst.Op, isa.KRel)
	_, _, hasCount := isa.At(line.Inst.Op, isa.KCount)
	if expr.Right(line.Value) != (hasValue || hasTarget) || expr.Right(line.Count) != hasCount {
		t.Errorf("%s: the expressions of %+v", told(l), line)
	}
}

// check asks for this instruction of all tokens of the text. Value and count are the source forms of its expressions, none if empty; value has ## in front if it is forced.
func check(t *testing.T, text string, want api.Inst, value, count string) {
	t.Helper()
	value, forced := strings.CutPrefix(value, "##")
	l := tokens(text)
	checkTokens(t, l, api.Line{Inst: want, Value: terms(value), Count: terms(count), Forced: forced, Line: l[0].Line, Col: l[0].Col}, len(l))
}

// checkWrongTokens asks for this error at this token.
func checkWrongTokens(t *testing.T, l []lex.Token, at int, want api.Errno) {
	t.Helper()
	line, n, err := parse.Inst(l)
	if !isSame(line, api.Line{}) || n != at || err != want {
		t.Errorf("%s: %+v, %d, %d, not %d, %d", told(l), line, n, err, at, want)
	}
}

func checkWrong(t *testing.T, text string, at int, want api.Errno) {
	t.Helper()
	checkWrongTokens(t, tokens(text), at, want)
}

// The examples of the chapter

func TestExamples(t *testing.T) {
	check(t, "if (!p1.new) r1 = add(r2,r3)", api.Inst{Op: api.Add, D: 1, S: 2, T: 3, Mode: 4, Pred: 1}, "", "")
	if _, n, _ := parse.Inst(tokens("if (!p1.new) r1 = add(r2,r3)")); n != 13 {
		t.Errorf("%d tokens", n)
	}
	check(t, "r1 = ##L+4", api.Inst{Op: api.MovI, D: 1}, "##L+4", "")
	check(t, "memb(r2+#-1) = r3.new", api.Inst{Op: api.StB, S: 2, T: 3, New: true}, "-1", "")
	check(t, "loop1(x,#10)", api.Inst{Op: api.LoopI, N: 1}, "x", "10")
	check(t, "loop0(##x,r3)", api.Inst{Op: api.LoopR, S: 3}, "##x", "")
	checkWrong(t, "r32 = r1", 0, api.ErrForm)
	checkWrong(t, "r1 = add(r2 r3)", 5, api.ErrForm)
	checkWrong(t, "if (p0) p1 = cmp.eq(r1,r2)", 4, api.ErrForm)
	checkWrong(t, "if (p0) r1 = add(r2,#1)", 10, api.ErrForm)
}

// P16.1, Inst: the table

// triples are those with two registers in parentheses behind REG =.
var triples = map[string]uint8{"add": api.Add, "sub": api.Sub, "and": api.And, "or": api.Or, "xor": api.Xor, "mpy": api.Mpy, "cmpy": api.Cmpy, "cmpyc": api.CmpyC}

var compares = map[string]uint8{"cmp.eq": api.CmpEq, "cmp.gt": api.CmpGt, "cmp.gtu": api.CmpGtu}

var shifts = map[string]uint8{"asl": api.Asl, "lsr": api.Lsr, "asr": api.Asr}

var loads = map[string]uint8{"memw": api.LdW, "memh": api.LdH, "memb": api.LdB}

var stores = map[string]uint8{"memw": api.StW, "memh": api.StH, "memb": api.StB}

func TestRegistersAlone(t *testing.T) {
	check(t, "nop", api.Inst{Op: api.Nop}, "", "")
	check(t, "r1 = r2", api.Inst{Op: api.Mov, D: 1, S: 2}, "", "")
	check(t, "r31 = r0", api.Inst{Op: api.Mov, D: 31}, "", "")
	for name, op := range triples {
		check(t, "r1 = "+name+"(r2,r3)", api.Inst{Op: op, D: 1, S: 2, T: 3}, "", "")
		check(t, "r31="+name+"(r0,r31)", api.Inst{Op: op, D: 31, T: 31}, "", "")
	}
	for name, op := range compares {
		check(t, "p1 = "+name+"(r2,r3)", api.Inst{Op: op, D: 1, S: 2, T: 3}, "", "")
		check(t, "p3="+name+"(r31,r0)", api.Inst{Op: op, D: 3, S: 31}, "", "")
	}
	check(t, "r1 = mux(p2,r3,r4)", api.Inst{Op: api.Mux, D: 1, Pred: 2, S: 3, T: 4}, "", "")
	check(t, "r0 = mux(p0,r31,r30)", api.Inst{Op: api.Mux, S: 31, T: 30}, "", "")
	check(t, "jumpr r5", api.Inst{Op: api.JumpR, S: 5}, "", "")
}

func TestValues(t *testing.T) {
	for _, x := range []struct{ written, value string }{{"#5", "5"}, {"##5", "##5"}, {"#-5", "-5"}, {"## L+4*(N-1)", "##L+4*(N-1)"}, {"# - -(1)", "- -1"}, {"#1099511627776", "1099511627776"}, {"#0x10", "16"}} {
		check(t, "r1 = "+x.written, api.Inst{Op: api.MovI, D: 1}, x.value, "")
		check(t, "r1 = add(r2,"+x.written+")", api.Inst{Op: api.AddI, D: 1, S: 2}, x.value, "")
		check(t, "p1 = cmp.eq(r2,"+x.written+")", api.Inst{Op: api.CmpEqI, D: 1, S: 2}, x.value, "")
		for name, op := range loads {
			check(t, "r1 = "+name+"(r2+"+x.written+")", api.Inst{Op: op, D: 1, S: 2}, x.value, "")
		}
		for name, op := range stores {
			check(t, name+"(r2+"+x.written+") = r3", api.Inst{Op: op, S: 2, T: 3}, x.value, "")
			check(t, name+"(r2+"+x.written+") = r3.new", api.Inst{Op: op, S: 2, T: 3, New: true}, x.value, "")
		}
	}
}

func TestShifts(t *testing.T) {
	for name, op := range shifts {
		check(t, "r1 = "+name+"(r2,#3)", api.Inst{Op: op, D: 1, S: 2}, "3", "")
		check(t, "r1 = "+name+"(r2,#32-N)", api.Inst{Op: op, D: 1, S: 2}, "32-N", "")
		check(t, "r1 = "+name+"(r2,#-1)", api.Inst{Op: op, D: 1, S: 2}, "-1", "")
		checkWrong(t, "r1 = "+name+"(r2,##3)", 6, api.ErrForm)
		checkWrong(t, "r1 = "+name+"(r2,r3)", 6, api.ErrForm)
		checkWrong(t, "r1 = "+name+"(r2,3)", 6, api.ErrForm)
	}
}

func TestTargets(t *testing.T) {
	for _, x := range []struct{ written, value string }{{"L", "L"}, {"##L", "##L"}, {"64", "64"}, {"## 64", "##64"}, {"-4", "-4"}, {"(L+4)*2", "(L+4)*2"}, {"##(L)-M", "##L-M"}} {
		check(t, "jump "+x.written, api.Inst{Op: api.Jump}, x.value, "")
		check(t, "call "+x.written, api.Inst{Op: api.Call}, x.value, "")
		for n := range 2 {
			loop := fmt.Sprintf("loop%d(%s,", n, x.written)
			check(t, loop+"#10)", api.Inst{Op: api.LoopI, N: uint8(n)}, x.value, "10")
			check(t, loop+"#N*(2-M))", api.Inst{Op: api.LoopI, N: uint8(n)}, x.value, "N*(2-M)")
			check(t, loop+"r9)", api.Inst{Op: api.LoopR, N: uint8(n), S: 9}, x.value, "")
			check(t, loop+"r0)", api.Inst{Op: api.LoopR, N: uint8(n)}, x.value, "")
			checkWrongTokens(t, tokens(loop+"##10)"), len(tokens(loop)), api.ErrForm)
			checkWrongTokens(t, tokens(loop+"10)"), len(tokens(loop)), api.ErrForm)
		}
	}
	for _, s := range []string{"jump ", "call "} {
		checkWrong(t, s+"#L", 1, api.ErrForm)
		checkWrong(t, s+"## ##L", 2, api.ErrForm)
		checkWrong(t, s+"###L", 2, api.ErrForm)
	}
	for _, s := range []string{"loop0(", "loop1("} {
		checkWrong(t, s+"#L,r1)", 2, api.ErrForm)
		checkWrong(t, s+",r1)", 2, api.ErrForm)
	}
}

// P16.1, Inst: conditions

// conditions are the four prefixes with their modes, of the predicate N.
var conditions = []struct {
	text string
	mode uint8
}{{"if (pN) ", 1}, {"if (!pN) ", 2}, {"if (pN.new) ", 3}, {"if (!pN.new) ", 4}}

func TestConditions(t *testing.T) {
	for _, x := range conditions {
		for pred := range uint8(4) {
			ahead := strings.Replace(x.text, "N", fmt.Sprint(pred), 1)
			for name, op := range map[string]uint8{"add": api.Add, "sub": api.Sub, "and": api.And, "or": api.Or, "xor": api.Xor} {
				check(t, ahead+"r1 = "+name+"(r2,r3)", api.Inst{Op: op, D: 1, S: 2, T: 3, Mode: x.mode, Pred: pred}, "", "")
			}
			check(t, ahead+"r1 = r2", api.Inst{Op: api.Mov, D: 1, S: 2, Mode: x.mode, Pred: pred}, "", "")
			check(t, ahead+"r1 = #5", api.Inst{Op: api.MovI, D: 1, Mode: x.mode, Pred: pred}, "5", "")
			check(t, ahead+"r1 = ##L+4", api.Inst{Op: api.MovI, D: 1, Mode: x.mode, Pred: pred}, "##L+4", "")
			check(t, ahead+"jump L", api.Inst{Op: api.Jump, Mode: x.mode, Pred: pred}, "L", "")
			check(t, ahead+"jump ##L", api.Inst{Op: api.Jump, Mode: x.mode, Pred: pred}, "##L", "")
			check(t, ahead+"jumpr r5", api.Inst{Op: api.JumpR, S: 5, Mode: x.mode, Pred: pred}, "", "")
		}
	}
}

// What has no Mode is wrong at the first token that only it has.
func TestConditionsOfWhatHasNoMode(t *testing.T) {
	for _, x := range conditions {
		ahead := strings.Replace(x.text, "N", "2", 1)
		n := len(tokens(ahead))
		for text, at := range map[string]int{
			"nop": 0, "call L": 0, "call ##L": 0, "loop0(L,#3)": 0, "loop1(L,r3)": 0,
			"memw(r1+#4) = r2": 0, "memh(r1+#4) = r2": 0, "memb(r1+##4) = r2.new": 0,
			"p1 = cmp.eq(r1,r2)": 0, "p0 = cmp.gt(r1,r2)": 0, "p3 = cmp.gtu(r1,r2)": 0, "p1 = cmp.eq(r1,#2)": 0, "p1": 0, "p1 = r1": 0,
			"r1 = add(r2,#1)": 6, "r1 = add(r2,##1)": 6, "r1 = add(r2,#": 6, "r1 = mux(p0,r1,r2)": 2,
			"r1 = asl(r2,#3)": 2, "r1 = lsr(r2,#3)": 2, "r1 = asr(r2,#3)": 2, "r1 = mpy(r2,r3)": 2, "r1 = cmpy(r2,r3)": 2, "r1 = cmpyc(r2,r3)": 2,
			"r1 = memw(r2+#4)": 2, "r1 = memh(r2+#4)": 2, "r1 = memb(r2+#4)": 2, "r1 = memb": 2, "nop nop": 0,
			"if (p1) r1 = r2": 0, "if": 0,
		} {
			checkWrong(t, ahead+text, n+at, api.ErrForm)
		}
	}
}

func TestWrongConditions(t *testing.T) {
	for text, at := range map[string]int{
		"if": 1, "if (": 2, "if (!": 3, "if (p0": 3, "if (!p0": 4, "if (p0)": 4, "if (!p0)": 5, "if (p0.new)": 4, "if (!p0.new)": 5,
		"if p0": 1, "if !p0": 1, "if p0 r1 = r2": 1, "if r1 = r2": 1, "if nop": 1, "if = r1": 1, "if ((p0)) r1 = r2": 2,
		"if () r1 = r2": 2, "if (!) r1 = r2": 3, "if (!!p0) r1 = r2": 3, "if (p0!) r1 = r2": 3, "if (p0)! r1 = r2": 4,
		"if (p4) r1 = r2": 2, "if (!p4) r1 = r2": 3, "if (p4.new) r1 = r2": 2, "if (p00) r1 = r2": 2, "if (p01.new) r1 = r2": 2,
		"if (r0) r1 = r2": 2, "if (r0.new) r1 = r2": 2, "if (!r0) r1 = r2": 3, "if (0) r1 = r2": 2, "if (x) r1 = r2": 2, "if (if) r1 = r2": 2,
		"if (p0 .new) r1 = r2": 3, "if (p0.new.new) r1 = r2": 2, "if (p0.New) r1 = r2": 2, "if (p0.) r1 = r2": 2, "if (.new) r1 = r2": 2, "if (p.new) r1 = r2": 2,
		"if (p0 p1) r1 = r2": 3, "if (p0,p1) r1 = r2": 3, "if (p0+p1) r1 = r2": 3, "if (p0; r1 = r2": 3, "if (p0 = r1": 3,
		"if (p0) (p1) r1 = r2": 4, "if (p0) = r2": 4, "if (p0) 5": 4, "if (p0) x": 4, "if (p0) #5": 4, "if (p0) add(r1,r2)": 4,
		"If (p0) r1 = r2": 0, "if. (p0) r1 = r2": 0, "if0 (p0) r1 = r2": 0, "(p0) r1 = r2": 0, "!p0 r1 = r2": 0,
	} {
		checkWrong(t, text, at, api.ErrForm)
	}
}

// P16.1, Inst: the index that is told

func TestWrongBeginnings(t *testing.T) {
	for _, text := range []string{
		"r32", "r01 = r1", "r00 = r1", "r = r1", "R1 = r2", "r1.new = r2", "r1x = r2", "r-1", "p4 = cmp.eq(r1,r2)", "p00 = cmp.eq(r1,r2)", "p0.new = cmp.eq(r1,r2)", "P0 = cmp.eq(r1,r2)",
		"add(r1,r2)", "sub", "and", "or", "xor", "mux(p0,r1,r2)", "asl(r1,#2)", "lsr", "asr", "mpy", "cmpy", "cmpyc", "cmp.eq(r1,r2)", "cmp.gt", "cmp.gtu", "code", "data",
		"mov r1", "movi", "addi", "ldw", "stw", "loopi", "loop(x,#1)", "loop2(x,#1)", "Nop", "nop.", "nop.new", "jump. x", "memd(r1+#2) = r1", "mem", "x", "x: nop", ".org 4",
		"1", "0x10", "{ nop }", "}", "; nop", ": raw", "( nop )", ")", ", nop", "= r1", "+", "-", "*", "!p0", "#5", "##5",
	} {
		checkWrong(t, text, 0, api.ErrForm)
	}
}

func TestWrongAssignments(t *testing.T) {
	for text, at := range map[string]int{
		"r1": 1, "r1 =": 2, "r1 r2": 1, "r1 , r2": 1, "r1 + r2": 1, "r1 == r2": 2, "r1: nop": 1, "r1(r2)": 1, "r1 #5": 1, "r1 add(r2,r3)": 1,
		"r1 = 5": 2, "r1 = -5": 2, "r1 = x": 2, "r1 = (r2)": 2, "r1 = !r2": 2, "r1 = p0": 2, "r1 = p0.new": 2, "r1 = r2.new": 2, "r1 = r32": 2, "r1 = r02": 2, "r1 = R2": 2,
		"r1 = nop": 2, "r1 = jump": 2, "r1 = jumpr r2": 2, "r1 = call x": 2, "r1 = loop0(x,r1)": 2, "r1 = loop1": 2, "r1 = if": 2, "r1 = code": 2, "r1 = data": 2, "r1 = mov": 2,
		"r1 = cmp.eq(r1,r2)": 2, "r1 = cmp.gt(r1,r2)": 2, "r1 = cmp.gtu(r1,r2)": 2, "r1 = Add(r1,r2)": 2, "r1 = add.(r1,r2)": 2, "r1 = addi(r1,#2)": 2,
		"p1": 1, "p1 =": 2, "p1 p2": 1, "p1 = p2": 2, "p1 = r2": 2, "p1 = #1": 2, "p1 = ##1": 2, "p1 = 1": 2, "p1 = cmp": 2, "p1 = cmp.eqi(r1,#2)": 2, "p1 = cmp.lt(r1,r2)": 2,
		"p1 = add(r1,r2)": 2, "p1 = mux(p0,r1,r2)": 2, "p1 = memw(r1+#2)": 2, "p1 = mpy(r1,r2)": 2, "p1 = asl(r1,#2)": 2, "p1 = nop": 2, "p1 = if": 2, "p1 = data": 2,
		"r1 = #": 3, "r1 = ##": 3, "r1 = # #5": 3, "r1 = ## #5": 3, "r1 = #)": 3, "r1 = #=": 3, "r1 = #+5": 3, "r1 = #;": 3,
	} {
		checkWrong(t, text, at, api.ErrForm)
	}
}

func TestWrongOperands(t *testing.T) {
	for text, at := range map[string]int{
		"r1 = add r2,r3": 3, "r1 = add": 3, "r1 = add(": 4, "r1 = add()": 4, "r1 = add(r2": 5, "r1 = add(r2)": 5, "r1 = add(r2,": 6, "r1 = add(r2,)": 6, "r1 = add(r2,r3": 7, "r1 = add(r2,r3,": 7, "r1 = add(r2,r3,r4)": 7,
		"r1 = add(#1,r2)": 4, "r1 = add(2,r3)": 4, "r1 = add(r2+r3)": 5, "r1 = add(r2,3)": 6, "r1 = add(r2,x)": 6, "r1 = add(r2,r3;": 7, "r1 = add((r2,r3))": 4, "r1 = add(r2,#1": 8, "r1 = add(r2,#1,": 8, "r1 = add(r2,#": 7, "r1 = add(r2,#)": 7,
		"r1 = add(p2,r3)": 4, "r1 = add(r2,p3)": 6, "r1 = add(r2.new,r3)": 4, "r1 = add(r2,r3.new)": 6, "r1 = sub(r2,#1)": 6, "r1 = and(r2,##1)": 6, "r1 = or(r2,#1)": 6, "r1 = xor(r2,#1)": 6, "r1 = mpy(r2,#1)": 6, "r1 = cmpy(r2,#1)": 6, "r1 = cmpyc(r2,##1)": 6,
		"p1 = cmp.eq r2,r3": 3, "p1 = cmp.eq(p2,r3)": 4, "p1 = cmp.eq(r2,p3)": 6, "p1 = cmp.gt(r2,#1)": 6, "p1 = cmp.gtu(r2,##1)": 6, "p1 = cmp.eq(r2,#1": 8, "p1 = cmp.eq(#1,r2)": 4, "p1 = cmp.eq(r2)": 5,
		"r1 = mux(r0,r1,r2)": 4, "r1 = mux(p4,r1,r2)": 4, "r1 = mux(p0.new,r1,r2)": 4, "r1 = mux(!p0,r1,r2)": 4, "r1 = mux(p0 r1,r2)": 5, "r1 = mux(p0,p1,r2)": 6, "r1 = mux(p0,r1)": 7, "r1 = mux(p0,r1,p2)": 8, "r1 = mux(p0,r1,#2)": 8, "r1 = mux(p0,#1,r2)": 6, "r1 = mux(p0,r1,r2,": 9, "r1 = mux(p0,r1,r2": 9,
		"r1 = asl(r2,#": 7, "r1 = asl(r2,#3": 8, "r1 = asl(r2,#3,": 8, "r1 = asl(r2)": 5, "r1 = asl(#3,r2)": 4, "r1 = asl(p2,#3)": 4,
		"r1 = memw r2": 3, "r1 = memw(#4)": 4, "r1 = memw(r2)": 5, "r1 = memw(r2,#4)": 5, "r1 = memw(r2-#4)": 5, "r1 = memw(r2 #4)": 5, "r1 = memw(r2+4)": 6, "r1 = memw(r2+r3)": 6, "r1 = memw(r2+#4": 8, "r1 = memw(r2+#4]": 8, "r1 = memw(r2+#": 7, "r1 = memw(p2+#4)": 4, "r1 = memw(r2.new+#4)": 4, "r1 = memw((r2+#4))": 4,
	} {
		checkWrong(t, text, at, api.ErrForm)
	}
}

func TestWrongStores(t *testing.T) {
	for text, at := range map[string]int{
		"memw": 1, "memw r1": 1, "memw = r1": 1, "memw(": 2, "memw()": 2, "memw(r1": 3, "memw(r1)": 3, "memw(r1+": 4, "memw(r1+4)": 4, "memw(r1+r2)": 4, "memw(r1+#": 5, "memw(r1+#)": 5, "memw(r1+#4": 6, "memw(r1+#4 =": 6, "memw(r1+#4)": 7, "memw(r1+#4)+": 7, "memw(r1+#4) r2": 7, "memw(r1+#4) =": 8,
		"memh(r1+#4) = #5": 8, "memh(r1+#4) = 5": 8, "memh(r1+#4) = x": 8, "memh(r1+#4) = p0": 8, "memh(r1+#4) = p0.new": 8, "memh(r1+#4) = r32": 8, "memh(r1+#4) = r32.new": 8, "memh(r1+#4) = r02.new": 8, "memh(r1+#4) = r2.new.new": 8, "memh(r1+#4) = r2.": 8, "memh(r1+#4) = .new": 8, "memh(r1+#4) = r.new": 8, "memh(r1+#4) = new": 8, "memh(r1+#4) = r2new": 8, "memh(r1+#4) = add(r1,r2)": 8, "memh(r1+#4) = memh(r1+#4)": 8,
		"memb(p1+#4) = r2": 2, "memb(r1.new+#4) = r2": 2, "memb(r32+#4) = r2": 2, "memb(#4+r1) = r2": 2, "memb(r1,#4) = r2": 3, "memb(r1-#4) = r2": 3, "memb((r1+#4)) = r2": 2,
	} {
		checkWrong(t, text, at, api.ErrForm)
	}
}

func TestWrongJumps(t *testing.T) {
	for text, at := range map[string]int{
		"jump": 1, "jump ##": 2, "jump ;": 1, "jump =": 1, "jump )": 1, "jump !x": 1, "jump +x": 1,
		"jumpr": 1, "jumpr x": 1, "jumpr 5": 1, "jumpr #5": 1, "jumpr ##x": 1, "jumpr p0": 1, "jumpr r32": 1, "jumpr r05": 1, "jumpr r5.new": 1, "jumpr (r5)": 1, "jumpr = r5": 1,
		"call": 1, "call ##": 2, "call ;": 1, "call {": 1,
		"loop0": 1, "loop0 x": 1, "loop0(": 2, "loop0()": 2, "loop0(x": 3, "loop0(x)": 3, "loop0(x,": 4, "loop0(x,)": 4, "loop0(x,#": 5, "loop0(x,#)": 5, "loop0(x,#3": 6, "loop0(x,#3,": 6, "loop0(x,r3": 5, "loop0(x,r3,": 5, "loop0(x #3)": 3, "loop0(x,p0)": 4, "loop0(x,r3.new)": 4, "loop0(x,y)": 4, "loop0(x,(r3))": 4,
		"loop1(##": 3, "loop1(##)": 3, "loop1(##x": 4, "loop1(##x,": 5, "loop1(##x,#": 6, "loop1(##x,##3)": 5, "loop1(##x,r32)": 5,
	} {
		checkWrong(t, text, at, api.ErrForm)
	}
}

// P16.1, Inst: what stands behind an instruction

// whole are instructions; open tells of one that its last expression may go on.
var whole = []struct {
	text, value, count string
	want               api.Inst
	open               bool
}{
	{text: "nop", want: api.Inst{Op: api.Nop}},
	{text: "r1 = r2", want: api.Inst{Op: api.Mov, D: 1, S: 2}},
	{text: "r1 = #5", value: "5", want: api.Inst{Op: api.MovI, D: 1}, open: true},
	{text: "r1 = ##L+4", value: "##L+4", want: api.Inst{Op: api.MovI, D: 1}, open: true},
	{text: "if (p1) r1 = add(r2,r3)", want: api.Inst{Op: api.Add, D: 1, S: 2, T: 3, Mode: 1, Pred: 1}},
	{text: "p1 = cmp.eq(r2,#3)", value: "3", want: api.Inst{Op: api.CmpEqI, D: 1, S: 2}},
	{text: "r1 = mux(p0,r2,r3)", want: api.Inst{Op: api.Mux, D: 1, S: 2, T: 3}},
	{text: "r1 = asr(r2,#3)", value: "3", want: api.Inst{Op: api.Asr, D: 1, S: 2}},
	{text: "r1 = memb(r2+#3)", value: "3", want: api.Inst{Op: api.LdB, D: 1, S: 2}},
	{text: "memw(r2+#4) = r3", value: "4", want: api.Inst{Op: api.StW, S: 2, T: 3}},
	{text: "memw(r2+#4) = r3.new", value: "4", want: api.Inst{Op: api.StW, S: 2, T: 3, New: true}},
	{text: "jump L", value: "L", want: api.Inst{Op: api.Jump}, open: true},
	{text: "call (L)", value: "L", want: api.Inst{Op: api.Call}, open: true},
	{text: "jumpr r5", want: api.Inst{Op: api.JumpR, S: 5}},
	{text: "loop0(x,#10)", value: "x", count: "10", want: api.Inst{Op: api.LoopI}},
	{text: "loop1(x,r2)", value: "x", want: api.Inst{Op: api.LoopR, N: 1, S: 2}},
}

func TestBehindAnInstruction(t *testing.T) {
	for _, x := range whole {
		value, forced := strings.CutPrefix(x.value, "##")
		want := api.Line{Inst: x.want, Value: terms(value), Count: terms(x.count), Forced: forced, Line: 1, Col: 1}
		l := tokens(x.text)
		for _, behind := range []string{"nop", "r1 = r2", "5", "x", ".new", ".", "if (p0) nop", "{", "}", ";", "; r1 = ", ":", ":raw", ":endloop0 }", "( 1", "( ((((((((((((((((((((1", ")", ",", "=", "= r1", "!", "#", "#5", "##5", "\n", "\n+1", "\n\n- ("} {
			checkTokens(t, tokens(x.text+" "+behind), want, len(l))
		}
		for _, behind := range []string{"+", "-", "*", "+ =", "- )", "* nop =", "+ ((", "- -", "* 1 *"} {
			if !x.open {
				checkTokens(t, tokens(x.text+" "+behind), want, len(l))
			}
		}
		for _, behind := range strangers() {
			checkTokens(t, append(slices.Clone(l), behind), want, len(l))
		}
	}
}

// strangers are tokens with which no source form continues, wherever they stand: of kinds that there are not, ends, and names, numbers and signs that there are not.
func strangers() []lex.Token {
	l := append(tokens("{};:"), lex.Token{Kind: lex.KEnd}, lex.Token{}, lex.Token{Kind: lex.KNumber, Text: "5", V: -1}, lex.Token{Kind: lex.KName})
	for _, s := range []string{"nop", "r1", "p0", "if", "add", "memw", "jump", "loop0", "=", "(", ")", ",", "#", "##", "+", "-", "!", "5", ""} {
		for _, kind := range []uint8{0, lex.KEnd, 5, 128, 255} {
			l = append(l, lex.Token{Kind: kind, Text: s, V: 5})
		}
	}
	for _, s := range []string{"", "nop", "r1", "p0", "if", "x", "5", "###", "# ", "( ", "((", "==", " ="} {
		l = append(l, lex.Token{Kind: lex.KSign, Text: s})
	}
	return l
}

// Each expression of these instructions is of one token, so that they are none but at their ends.
func TestStrangersAtEachPlace(t *testing.T) {
	for _, text := range []string{
		"nop", "r1 = r2", "r1 = #5", "r1 = ##x", "r1 = xor(r2,r3)", "r1 = add(r2,#5)", "p1 = cmp.gt(r2,r3)", "p1 = cmp.eq(r2,##5)", "r1 = mux(p2,r3,r4)", "r1 = lsr(r2,#5)", "r1 = cmpyc(r2,r3)",
		"r1 = memh(r2+#5)", "memh(r2+##x) = r3", "memb(r2+#5) = r3.new", "jump x", "jump ##5", "jumpr r1", "call 5", "call ##x", "loop0(x,#5)", "loop1(##5,#x)", "loop1(x,r2)", "loop0(##5,r2)",
		"if (p0) r1 = r2", "if (!p1) r1 = ##5", "if (p2.new) r1 = or(r2,r3)", "if (!p3.new) jump x", "if (p0) jumpr r1",
	} {
		l := tokens(text)
		for at := range l {
			checkWrongTokens(t, l[:at], at, api.ErrForm)
			checkWrongTokens(t, l[:at:at], at, api.ErrForm)
			for _, stranger := range strangers() {
				checkWrongTokens(t, slices.Insert(slices.Clone(l), at, stranger), at, api.ErrForm)
				instead := slices.Clone(l)
				instead[at] = stranger
				checkWrongTokens(t, instead, at, api.ErrForm)
			}
		}
	}
}

func TestNoTokens(t *testing.T) {
	checkWrongTokens(t, nil, 0, api.ErrForm)
	checkWrongTokens(t, []lex.Token{}, 0, api.ErrForm)
	checkWrongTokens(t, tokens("nop")[:0], 0, api.ErrForm)
	checkWrongTokens(t, make([]lex.Token, 100), 0, api.ErrForm)
	checkWrong(t, "\nnop", 0, api.ErrForm)
}

// An instruction does not go on in the next line.
func TestEndsOfLinesWithin(t *testing.T) {
	checkWrong(t, "r1 =\nr2", 2, api.ErrForm)
	checkWrong(t, "if (p0)\nr1 = r2", 4, api.ErrForm)
	checkWrong(t, "r1 = add(r2,\nr3)", 6, api.ErrForm)
	checkWrong(t, "jump\nx", 1, api.ErrForm)
	checkWrong(t, "jump x +\n1", 3, api.ErrForm)
	checkWrong(t, "loop0(x,#1\n)", 6, api.ErrForm)
}

// What the lexer does not tell of names and signs does not matter.
func TestTokensWithMoreThanTheyNeed(t *testing.T) {
	l := tokens("if (!p1.new) r1 = add(r2,r3) :")
	for i := range l {
		l[i].V, l[i].Line, l[i].Col = int64(-i-1), 7-i, i*i
	}
	checkTokens(t, l, api.Line{Inst: api.Inst{Op: api.Add, D: 1, S: 2, T: 3, Mode: 4, Pred: 1}, Line: 7, Col: 0}, 13)
}

// P16.1, Inst: expressions

func TestExpressionsThatGoOn(t *testing.T) {
	check(t, "jump x + 1", api.Inst{Op: api.Jump}, "x+1", "")
	check(t, "jump x\t- r1", api.Inst{Op: api.Jump}, "x-r1", "")
	check(t, "call 5 * nop - if", api.Inst{Op: api.Call}, "5*nop-if", "")
	check(t, "r1 = #5 * (6)", api.Inst{Op: api.MovI, D: 1}, "5*6", "")
	check(t, "r1 = ##5 --6", api.Inst{Op: api.MovI, D: 1}, "##5--6", "")
	check(t, "memw(r2+#4+r3) = r5", api.Inst{Op: api.StW, S: 2, T: 5}, "4+r3", "")
	check(t, "r1 = memb(r2+#(4)-(5))", api.Inst{Op: api.LdB, D: 1, S: 2}, "4-5", "")
	check(t, "loop0(x-4,#2*(3))", api.Inst{Op: api.LoopI}, "x-4", "2*3")
	// With these it goes on, and then it is wrong.
	for text, at := range map[string]int{
		"jump x +": 3, "jump x -": 3, "jump x *": 3, "jump x + ;": 3, "jump x + }": 3, "jump x + :raw": 3, "jump x + \n": 3, "jump x * * 2": 3, "jump x - #5": 3, "jump x + 1 -": 5, "jump ##x - = 2": 4, "call x + )": 3, "jump x - (1": 5, "jump x + (1 2)": 5,
		"r1 = #5 +": 5, "r1 = #5 - ; nop": 5, "r1 = ##5 * }": 5, "r1 = #5 - (": 6, "if (p0) jump x + ,": 7, "if (p0) r1 = #5 *": 9,
		"r1 = add(r2,#5+)": 9, "r1 = add(r2,#5 6)": 8, "memw(r2+#4+#5) = r1": 7, "memw(r2+#4-) = r1": 7, "r1 = memw(r2+#4*)": 9, "r1 = asl(r2,#1+)": 9, "loop0(x+,r1)": 4, "loop0(x+1 y,r1)": 5, "loop0(x,#1-)": 7, "loop0(x,#(1)": 8,
		"r1 = add(r2,#(5)": 10, "r1 = memw(r2+#(4": 9, "r1 = memw(r2+#(4)": 10,
	} {
		checkWrong(t, text, at, api.ErrForm)
	}
}

// ahead are the tokens of each source form up to an expression, with what closes the source form behind it.
var ahead = [][2]string{
	{"r1 = #", ""}, {"r1 = ##", ""}, {"if (p0) r1 = #", ""}, {"if (!p3.new) r1 = ##", ""}, {"r1 = add(r2,#", ")"}, {"r1 = add(r2,##", ")"}, {"p1 = cmp.eq(r2,#", ")"}, {"p1 = cmp.eq(r2,##", ")"},
	{"r1 = asl(r2,#", ")"}, {"r1 = lsr(r2,#", ")"}, {"r1 = asr(r2,#", ")"}, {"r1 = memw(r2+#", ")"}, {"r1 = memh(r2+##", ")"}, {"r1 = memb(r2+#", ")"}, {"memw(r2+#", ") = r1"}, {"memh(r2+##", ") = r1"}, {"memb(r2+#", ") = r1.new"},
	{"jump ", ""}, {"jump ##", ""}, {"if (p0) jump ", ""}, {"if (!p0.new) jump ##", ""}, {"call ", ""}, {"call ##", ""},
	{"loop0(", ",#1)"}, {"loop0(##", ",#1)"}, {"loop1(", ",r1)"}, {"loop1(##", ",r1)"}, {"loop0(x,#", ")"}, {"loop1(##(x),#", ")"},
}

func TestWrongExpressions(t *testing.T) {
	for _, x := range ahead {
		n := len(tokens(x[0]))
		for text, at := range map[string]int{")": 0, "=": 0, ";": 0, ",": 0, "!": 0, "* 1": 0, "+ 1": 0, "()": 1, "(,": 1, "-)": 1, "1+)": 2, "1+=": 2, "1-*2": 2, "(1,": 2, "(1;": 2, "(1 2)": 2, "-(1+)": 4, "x*(y-)": 5} {
			checkWrong(t, x[0]+text+x[1], n+at, api.ErrForm)
		}
		for _, text := range []string{"", "-", "(", "1+", "x*", "1-(2", "(1)+", "((1)"} {
			checkWrong(t, x[0]+text, n+len(tokens(text)), api.ErrForm)
		}
		closing := tokens(x[1])
		for _, v := range []int64{-1, api.MaxValue + 1, math.MaxInt64, math.MinInt64} {
			l := append(tokens(x[0]), lex.Token{Kind: lex.KNumber, Text: "1", V: v})
			checkWrongTokens(t, l, n, api.ErrForm)
			checkWrongTokens(t, append(l, closing...), n, api.ErrForm)
		}
		l := append(tokens(x[0]), lex.Token{Kind: lex.KName})
		checkWrongTokens(t, append(l, closing...), n, api.ErrForm)
	}
}

// No parentheses but its own enclose an expression.
func TestDeepExpressions(t *testing.T) {
	for _, x := range ahead {
		n := len(tokens(x[0]))
		deepest := strings.Repeat("(", 16) + "1" + strings.Repeat(")", 16)
		l := tokens(x[0] + deepest + x[1])
		if line, got, err := parse.Inst(l); got != len(l) || err != api.OK || len(line.Value) != 1 {
			t.Errorf("%s: %+v, %d, %d", told(l), line, got, err)
		}
		for _, one := range []string{"(", "-", "(-", "-(", "((-"} {
			deep := strings.Repeat(one, 17)
			checkWrong(t, x[0]+deep[:17], n+16, api.ErrLong)
			checkWrong(t, x[0]+deep, n+16, api.ErrLong)
			checkWrong(t, x[0]+deep[:17]+"1"+x[1], n+16, api.ErrLong)
			checkWrong(t, x[0]+"1+"+deep[:17], n+2+16, api.ErrLong)
			checkWrong(t, x[0]+"1*(2)-"+deep[:17], n+6+16, api.ErrLong)
			checkWrong(t, x[0]+deep[:16], n+16, api.ErrForm)
			checkWrong(t, x[0]+deep[:16]+"=", n+16, api.ErrForm)
		}
		checkWrong(t, x[0]+deepest+"+("+deepest+")", n+33+1+1+15, api.ErrLong)
	}
}

func TestReservedNamesInExpressions(t *testing.T) {
	for _, name := range append(reserved(), "x", "endloop0", "raw", ".org", "r32", ".new") {
		e := []api.Term{{Kind: api.TName, Name: name}}
		for _, x := range ahead {
			l := tokens(x[0] + name + x[1])
			line, n, err := parse.Inst(l)
			if n != len(l) || err != api.OK || !slices.Equal(line.Value, e) && !slices.Equal(line.Count, e) {
				t.Errorf("%s: %+v, %d, %d", told(l), line, n, err)
			}
		}
	}
	check(t, "loop0(r1,#r2)", api.Inst{Op: api.LoopI}, "r1", "r2")
	check(t, "loop1(p0.new,r2)", api.Inst{Op: api.LoopR, N: 1, S: 2}, "p0.new", "")
	check(t, "memw(r1+#r1) = r1.new", api.Inst{Op: api.StW, S: 1, T: 1, New: true}, "r1", "")
	check(t, "jump jump", api.Inst{Op: api.Jump}, "jump", "")
	check(t, "jump nop - r1.new", api.Inst{Op: api.Jump}, "nop-r1.new", "")
}

// P16.1, Inst: where

func TestPositions(t *testing.T) {
	l, _ := lex.Split("\n  if (p0)\tr1 = r2\nnop")
	checkTokens(t, l[1:], api.Line{Inst: api.Inst{Op: api.Mov, D: 1, S: 2, Mode: 1}, Line: 2, Col: 3}, 7)
	checkTokens(t, l[5:], api.Line{Inst: api.Inst{Op: api.Mov, D: 1, S: 2}, Line: 2, Col: 11}, 3)
	checkTokens(t, l[9:], api.Line{Inst: api.Inst{Op: api.Nop}, Line: 3, Col: 1}, 1)
	for _, line := range []int{0, 1, -3, math.MaxInt, math.MinInt} {
		for _, col := range []int{0, 1, -3, math.MaxInt, math.MinInt} {
			checkTokens(t, []lex.Token{{Kind: lex.KName, Text: "nop", Line: line, Col: col}}, api.Line{Inst: api.Inst{Op: api.Nop}, Line: line, Col: col}, 1)
		}
	}
}

// Rules R3 and R4

func TestArgumentsStay(t *testing.T) {
	for _, text := range []string{"if (!p1.new) r1 = ##x+1*y ; nop", "loop0(x+1,#2*(3))", "loop0(x+1,#2*(3,", "memw(r1+#a-(b)) = r2.new", "r1 = #((((((((((((((((((1", "jump x+"} {
		l := tokens(text)
		spare := append(slices.Clone(l), slices.Repeat([]lex.Token{{Kind: lex.KSign, Text: "+", V: 9}}, 10)...)
		was := slices.Clone(spare)
		for n := range len(l) + 1 {
			parse.Inst(spare[:n])
			if !slices.Equal(spare, was) {
				t.Errorf("%s: %v, not %v", text, spare, was)
			}
		}
	}
}

func TestNewMemory(t *testing.T) {
	const text = "loop0(x+1,#2*(y)-3)"
	l := tokens(text)
	line, _, _ := parse.Inst(l)
	value, count := slices.Clone(line.Value), slices.Clone(line.Count)
	clear(line.Value[:cap(line.Value)])
	if !slices.Equal(line.Count, count) {
		t.Errorf("%v, not %v", line.Count, count)
	}
	clear(line.Count[:cap(line.Count)])
	check(t, text, api.Inst{Op: api.LoopI}, "x+1", "2*(y)-3")
	if line, _, _ = parse.Inst(l); !slices.Equal(line.Value, value) || !slices.Equal(line.Count, count) {
		t.Errorf("%v, %v, not %v, %v", line.Value, line.Count, value, count)
	}
	clear(l)
	if !slices.Equal(line.Value, value) || !slices.Equal(line.Count, count) {
		t.Errorf("%v, %v, not %v, %v", line.Value, line.Count, value, count)
	}
}

func TestTheTextIsNotKept(t *testing.T) {
	b := []byte("name.1")
	line, _, _ := parse.Inst([]lex.Token{{Kind: lex.KName, Text: "jump"}, {Kind: lex.KName, Text: unsafe.String(&b[0], len(b))}})
	clear(b)
	if len(line.Value) != 1 || line.Value[0].Name != "name.1" {
		t.Errorf("%+v", line)
	}
}

func TestManyTokens(t *testing.T) {
	const n = 1 << 18
	l := tokens("r1 = #1" + strings.Repeat("+(-x)", n) + " nop")
	line, got, err := parse.Inst(l)
	if got != len(l)-1 || err != api.OK || len(line.Value) != 3*n+1 {
		t.Errorf("%d terms, %d, %d", len(line.Value), got, err)
	}
	checkWrongTokens(t, append(l[:len(l)-1], tokens("+")...), len(l), api.ErrForm)
	// What is behind it is not gone through.
	l = slices.Repeat(tokens("nop"), n)
	for at := range l {
		if _, got, err := parse.Inst(l[at:]); got != 1 || err != api.OK {
			t.Fatalf("%d, %d", got, err)
		}
	}
}

// P16.1, Reserved

// words are the names of the table, and those that are reserved beside it.
var words = strings.Fields("nop add sub and or xor mux asl lsr asr mpy cmpy cmpyc memw memh memb cmp.eq cmp.gt cmp.gtu jump jumpr call loop0 loop1 if code data")

// reserved are all reserved names.
func reserved() []string {
	l := slices.Clone(words)
	for n := range 32 {
		l = append(l, fmt.Sprintf("r%d", n), fmt.Sprintf("r%d.new", n))
	}
	for n := range 4 {
		l = append(l, fmt.Sprintf("p%d", n), fmt.Sprintf("p%d.new", n))
	}
	return l
}

func checkReserved(t *testing.T, name string, want bool) {
	t.Helper()
	if got := parse.Reserved(name); got != want {
		t.Errorf("%q: %t, not %t", name, got, want)
	}
}

func TestReserved(t *testing.T) {
	all := reserved()
	if len(all) != 27+64+8 {
		t.Errorf("%d names", len(all))
	}
	for _, name := range all {
		checkReserved(t, name, true)
		for _, more := range []string{".", "_", " ", "\x00", "x", ".ne", ".newer", ".new.new", ".New", "..new", " .new", ".new "} {
			checkReserved(t, name+more, false)
		}
		for _, more := range []string{".", "_", " ", "x", "r", ".new"} {
			checkReserved(t, more+name, more+name == "xor")
		}
		checkReserved(t, strings.ToUpper(name), false)
		checkReserved(t, strings.ToUpper(name[:1])+name[1:], false)
		// All that begins or ends so, and is no other.
		for n := range len(name) {
			checkReserved(t, name[:n], slices.Contains(all, name[:n]))
			checkReserved(t, name[n:], slices.Contains(all, name[n:]))
		}
	}
	for _, name := range words {
		checkReserved(t, name+".new", false)
		for c := range 256 {
			longer := name + string([]byte{byte(c)})
			checkReserved(t, longer, slices.Contains(all, longer))
		}
	}
}

func TestFreeNames(t *testing.T) {
	for _, name := range []string{
		"", ".", ".new", "new", "r", "p", "r.new", "p.new", "r32", "r33", "r99", "r100", "r310", "r032", "r00", "r01", "r09", "r031", "r32.new", "r01.new", "p4", "p9", "p10", "p00", "p01", "p03", "p4.new", "p00.new",
		"r-1", "r+1", "r-0", "r+0", "r 1", "r1 ", "r_1", "r1_0", "r0x1", "r1e0", "r\u0661", "p-1", "p+0", "p 0", "r4294967297", "r18446744073709551617", "p256", "r256", "rr1", "pr1", "q0", "s1", "1", "0",
		"mov", "movi", "addi", "cmpeq", "cmpgt", "cmpgtu", "cmpeqi", "cmp", "cmp.", "cmp.eqi", "cmp.lt", "ldw", "ldh", "ldb", "stw", "sth", "stb", "loop", "loop2", "loop00", "loop10", "loopi", "loopr", "memd", "mem",
		"endloop0", "endloop1", "raw", ".org", ".equ", "org", "else", "then", "text", "cmpy.new", "if.new", "code.new", "data.new", strings.Repeat("r", 1000), "r" + strings.Repeat("0", 1000), "r" + strings.Repeat("1", 1<<20),
	} {
		checkReserved(t, name, false)
	}
}
