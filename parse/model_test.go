package parse_test

import (
	"fmt"
	"slices"
	"strings"
	"testing"

	"coxless/api"
	"coxless/arrange"
	"coxless/expr"
	"coxless/lex"
	"coxless/parse"
)

// form is one source form: its tokens, where D, S and T are registers, P and Q predicates (of D and of Pred), E and C expressions; what it says beside these.
type form struct {
	parts  []string
	inst   api.Inst
	forced bool
}

// rows are the table of the chapter, each likewise written out: IMM and TARGET stand for what they may be.
func rows() map[string]api.Inst {
	l := map[string]api.Inst{
		"nop": {Op: 1}, "D = S": {Op: 9}, "D = IMM": {Op: 8}, "D = add ( S , IMM )": {Op: 7}, "D = mux ( Q , S , T )": {Op: 14}, "P = cmp.eq ( S , IMM )": {Op: 13},
		"jump TARGET": {Op: 27}, "jumpr S": {Op: 28}, "call TARGET": {Op: 29},
	}
	for i, name := range []string{"add", "sub", "and", "or", "xor"} {
		l["D = "+name+" ( S , T )"] = api.Inst{Op: uint8(2 + i)}
	}
	for i, name := range []string{"eq", "gt", "gtu"} {
		l["P = cmp."+name+" ( S , T )"] = api.Inst{Op: uint8(10 + i)}
	}
	for i, name := range []string{"asl", "lsr", "asr"} {
		l["D = "+name+" ( S , # E )"] = api.Inst{Op: uint8(15 + i)}
	}
	for i, name := range []string{"mpy", "cmpy", "cmpyc"} {
		l["D = "+name+" ( S , T )"] = api.Inst{Op: uint8(18 + i)}
	}
	for i, name := range []string{"memw", "memh", "memb"} {
		l["D = "+name+" ( S + IMM )"] = api.Inst{Op: uint8(21 + i)}
		l[name+" ( S + IMM ) = T"] = api.Inst{Op: uint8(24 + i)}
		l[name+" ( S + IMM ) = T.new"] = api.Inst{Op: uint8(24 + i), New: true}
	}
	for i, name := range []string{"loop0", "loop1"} {
		l[name+" ( TARGET , # C )"] = api.Inst{Op: 30, N: uint8(i)}
		l[name+" ( TARGET , S )"] = api.Inst{Op: 31, N: uint8(i)}
	}
	return l
}

// withMode are the ops that have a cond, and prefixes are what they may have ahead, by their modes.
var (
	withMode = []uint8{2, 3, 4, 5, 6, 8, 9, 27, 28}
	prefixes = []string{"", "if ( Q ) ", "if ( ! Q ) ", "if ( Q.new ) ", "if ( ! Q.new ) "}
)

// forms are all source forms, in an order of their own.
func forms() []form {
	var l []form
	for text, in := range rows() {
		for mode, prefix := range prefixes {
			if mode > 0 && !slices.Contains(withMode, in.Op) {
				continue
			}
			in.Mode = uint8(mode)
			long := strings.NewReplacer("IMM", "## E", "TARGET", "## E").Replace(prefix + text)
			short := strings.NewReplacer("IMM", "# E", "TARGET", "E").Replace(prefix + text)
			l = append(l, form{strings.Fields(short), in, false})
			if long != short {
				l = append(l, form{strings.Fields(long), in, true})
			}
		}
	}
	slices.SortFunc(l, func(a, b form) int { return slices.Compare(a.parts, b.parts) })
	return l
}

var all = forms()

// registers and predicates are the names in their order.
var (
	registers  = strings.Fields("r0 r1 r2 r3 r4 r5 r6 r7 r8 r9 r10 r11 r12 r13 r14 r15 r16 r17 r18 r19 r20 r21 r22 r23 r24 r25 r26 r27 r28 r29 r30 r31")
	predicates = strings.Fields("p0 p1 p2 p3")
)

// asked are the field that the name of a part is put into, and the names that it may have.
func asked(part string, in *api.Inst) (field *uint8, names []string) {
	switch part[0] {
	case 'D':
		return &in.D, registers
	case 'S':
		return &in.S, registers
	case 'T':
		return &in.T, registers
	case 'P':
		return &in.D, predicates
	}
	return &in.Pred, predicates
}

// fits reports whether a token is what a form asks for, and puts what it says into the instruction.
func fits(part string, k lex.Token, in *api.Inst) bool {
	switch part {
	case "D", "S", "T", "P", "Q", "T.new", "Q.new":
		field, names := asked(part, in)
		name, isNew := strings.CutSuffix(k.Text, ".new")
		number := slices.Index(names, name)
		if k.Kind != lex.KName || number < 0 || isNew != strings.HasSuffix(part, ".new") {
			return false
		}
		*field = uint8(number)
		return true
	}
	kind := uint8(lex.KName)
	if part[0] < 'a' {
		kind = lex.KSign
	}
	return k.Kind == kind && k.Text == part
}

// match reads tokens as long as they continue this form; it is OK if they are that.
func (f form) match(l []lex.Token) (line api.Line, n int, e api.Errno) {
	line = api.Line{Inst: f.inst, Forced: f.forced}
	for _, part := range f.parts {
		switch {
		case part == "E" || part == "C":
			terms, m, e := expr.Parse(l[n:])
			n += m
			if e != api.OK {
				return api.Line{}, n, e
			}
			if part == "E" {
				line.Value = terms
			} else {
				line.Count = terms
			}
			continue
		case n == len(l) || !fits(part, l[n], &line.Inst):
			return api.Line{}, n, api.ErrForm
		}
		n++
	}
	line.Line, line.Col = l[0].Line, l[0].Col
	return line, n, api.OK
}

// model tells what the form says that the most tokens continue.
func model(l []lex.Token) (line api.Line, n int, e api.Errno) {
	n = -1
	for _, f := range all {
		x, m, wrong := f.match(l)
		if m > n || m == n && wrong == api.OK {
			line, n, e = x, m, wrong
		}
	}
	return line, n, e
}

func checkModel(t *testing.T, l []lex.Token) {
	t.Helper()
	want, n, err := model(l)
	if err == api.OK {
		checkTokens(t, l, want, n)
	} else {
		checkWrongTokens(t, l, n, err)
	}
}

// filled is a form with these registers, predicates and expressions, by the letters of its parts.
func (f form) filled(with map[string]string) []string {
	var out []string
	for _, part := range f.parts {
		letter, isNew := strings.CutSuffix(part, ".new")
		text := part
		if s, ok := with[letter]; ok {
			text = s
			if isNew {
				text += ".new"
			}
		}
		out = append(out, text)
	}
	return out
}

// usual is what a form may be filled with: no two registers or predicates are the same.
func usual() map[string]string {
	return map[string]string{"D": "r1", "S": "r2", "T": "r3", "P": "p1", "Q": "p2", "E": "5", "C": "6"}
}

// wanted is the line of a form that is filled so.
func (f form) wanted(with map[string]string) api.Line {
	line := api.Line{Inst: f.inst, Forced: f.forced, Line: 1, Col: 1}
	for _, part := range f.parts {
		switch letter, _ := strings.CutSuffix(part, ".new"); letter {
		case "E":
			line.Value = terms(with["E"])
		case "C":
			line.Count = terms(with["C"])
		case "D", "S", "T", "P", "Q":
			field, names := asked(part, &line.Inst)
			*field = uint8(slices.Index(names, with[letter]))
		}
	}
	return line
}

func TestHowManyForms(t *testing.T) {
	ops := map[uint8]int{}
	for _, f := range all {
		ops[f.inst.Op]++
	}
	// With five modes, with # and ##, with and without .new, and of two loops
	want := map[uint8]int{1: 1, 2: 5, 3: 5, 4: 5, 5: 5, 6: 5, 7: 2, 8: 10, 9: 5, 10: 1, 11: 1, 12: 1, 13: 2, 14: 1, 15: 1, 16: 1, 17: 1, 18: 1, 19: 1, 20: 1, 21: 2, 22: 2, 23: 2, 24: 4, 25: 4, 26: 4, 27: 10, 28: 5, 29: 2, 30: 4, 31: 4}
	if fmt.Sprint(ops) != fmt.Sprint(want) {
		t.Errorf("%v, not %v", ops, want)
	}
}

// P16.1, Inst: each form with all that may stand at a place

func TestEachRegisterAndPredicate(t *testing.T) {
	for _, f := range all {
		for letter, names := range map[string][]string{"D": registers, "S": registers, "T": registers, "P": predicates, "Q": predicates} {
			for _, name := range names {
				with := usual()
				with[letter] = name
				l := tokens(strings.Join(f.filled(with), " "))
				checkTokens(t, l, f.wanted(with), len(l))
			}
		}
	}
}

func TestTheSameRegisterThroughout(t *testing.T) {
	for _, f := range all {
		for _, i := range []int{0, 1, 3} {
			with := usual()
			for _, letter := range []string{"D", "S", "T", "P", "Q"} {
				with[letter] = with[letter][:1] + fmt.Sprint(i)
			}
			l := tokens(strings.Join(f.filled(with), " "))
			checkTokens(t, l, f.wanted(with), len(l))
		}
	}
}

func TestEachExpression(t *testing.T) {
	texts := []string{"0", "0x1F", "-1", "x", "r1", "p0.new", "if", "(x)", "-(x-1)", "x+4*(N-1)", "1-2-3", "- - -x", "1099511627776", "((((((((((((((((1))))))))))))))))"}
	for _, f := range all {
		for _, e := range texts {
			for _, c := range texts {
				with := usual()
				with["E"], with["C"] = e, c
				l := tokens(strings.Join(f.filled(with), " "))
				checkTokens(t, l, f.wanted(with), len(l))
			}
		}
	}
}

// Names that are none where a register or a predicate is asked.
func TestWrongRegistersAndPredicates(t *testing.T) {
	for _, f := range all {
		for at, part := range f.parts {
			letter, _ := strings.CutSuffix(part, ".new")
			if !strings.Contains("DSTPQ", letter) {
				continue
			}
			for _, name := range []string{"r32", "r33", "r99", "r100", "r310", "r01", "r00", "r031", "r", "R1", "r1.", "r1.new.new", "r1.New", "r1x", "r1_", "r-1", "r+1", " r1", "r1 ", "r\u0661", "p4", "p9", "p10", "p00", "p01", "p", "P0", "p0.", "p0.new.new", "p0x", "p-1", "p+1", "x", "new", ".new", ".", "rp0", "pr0", "q0", "s0", "0", "1", "(", "=", "\x00"} {
				l := tokens(strings.Join(f.filled(usual()), " "))
				l[at].Text = name
				checkWrongTokens(t, l, at, api.ErrForm)
				checkModel(t, l)
			}
		}
	}
}

// P16.2: blanks

func TestBlanksDoNotMatter(t *testing.T) {
	for _, f := range all {
		with := usual()
		with["E"], with["C"] = "- ( x + 4 ) * 5", "( ( y ) ) - 6"
		parts := strings.Fields(strings.Join(f.filled(with), " "))
		want := f.wanted(with)
		for _, blanks := range []string{" ", "\t", "\r", "  \t\r "} {
			checkTokens(t, tokens(strings.Join(parts, blanks)+" // nop"), want, len(parts))
		}
		// None but where two parts would be read as one.
		text := parts[0]
		for i, part := range parts[1:] {
			if part[0] >= 'a' && parts[i][0] >= 'a' {
				text += " "
			}
			text += part
		}
		checkTokens(t, tokens(text), want, len(parts))
		l, _ := lex.Split("\n\t " + text + "}")
		want.Line, want.Col = 2, 3
		checkTokens(t, l[1:], want, len(parts))
	}
}

// P16.1, Inst: each form with each token at each place

// others are tokens of which each may stand somewhere, or is like one.
func others() []lex.Token {
	return append(strangers(), tokens("nop add sub and or xor cmp.eq cmp.gt cmp.gtu mux asl lsr asr mpy cmpy cmpyc memw memh memb jump jumpr call loop0 loop1 if code data r0 r31 r1.new p0 p3 p0.new r32 p4 r01 x 0 5 ( ) , = + - * ! # ##")...)
}

func TestEachTokenAtEachPlace(t *testing.T) {
	for _, f := range all {
		l := tokens(strings.Join(f.filled(usual()), " "))
		for at := range len(l) + 1 {
			checkModel(t, l[:at])
			if at < len(l) {
				checkModel(t, slices.Delete(slices.Clone(l), at, at+1))
			}
			for _, other := range others() {
				inserted := slices.Insert(slices.Clone(l), at, other)
				checkModel(t, inserted)
				checkModel(t, inserted[:at+1])
				if at < len(l) {
					checkModel(t, slices.Delete(inserted, at+1, at+2))
				}
			}
		}
	}
}

// Each form goes on as any other does, from any place on.
func TestEachTwoForms(t *testing.T) {
	for _, f := range all {
		a := tokens(strings.Join(f.filled(usual()), " "))
		for _, g := range all {
			b := tokens(strings.Join(g.filled(usual()), " "))
			for at := range min(len(a), len(b)) {
				checkModel(t, append(slices.Clone(a[:at+1]), b[at+1:]...))
			}
			checkModel(t, append(slices.Clone(a), b...))
		}
	}
}

// checkSequences asks for all sequences of up to n of these parts, with this ahead.
func checkSequences(t *testing.T, n int, ahead string, parts ...string) {
	t.Helper()
	for l := range arrange.Sequences(parts, n) {
		checkModel(t, tokens(ahead+strings.Join(l, " ")))
	}
}

func TestAllShortSequences(t *testing.T) {
	checkSequences(t, 3, "", strings.Fields("r1 p0 x 1 = # ## ( ) , + ! if nop add mux asl mpy cmp.eq cmp.gt memw jump jumpr call loop1 p0.new r1.new ;")...)
}

func TestAllSequencesOfLongerParts(t *testing.T) {
	checkSequences(t, 4, "", "if (", "p1", "!p2.new", ")", "r1 =", "p3 =", "r4", "#5", "##x+", "add(r6,", "mux(", "cmp.eq(r7,", "memb(r8+", "jump", "loop0(x,", "nop", ",")
}

func TestAllSequencesBehindABeginning(t *testing.T) {
	for _, ahead := range []string{"if ", "r1 = add(", "r1 = sub(", "r1 = mux(", "r1 = asl(", "r1 = memw(", "memh(", "memb(r1+#1)", "p1 = cmp.eq(", "p1 = cmp.gtu(", "loop1(", "loop0(##x", "jump ", "jumpr ", "if (p0) r1 ", "if (p0) r1 = add(", "if (!p0) jump "} {
		checkSequences(t, 4, ahead, "r2", "p1", "x", "#", "##", "(", ")", ",", "+", "=", "r3.new")
	}
}

// P16.1, Reserved, of all short names

func TestAllShortNames(t *testing.T) {
	known := reserved()
	for l := range arrange.Sequences([]string{"r", "p", "0", "1", "2", "3", "4", "9", ".", "new", ".new", "if", "nop", "add", "cmp", "eq", "y", "c", "mem", "w", "loop", "jump"}, 4) {
		name := strings.Join(l, "")
		if got := parse.Reserved(name); got != slices.Contains(known, name) {
			t.Errorf("%q: %t", name, got)
		}
	}
}
