package prog_test

import (
	"fmt"
	"slices"
	"strings"
	"testing"
	"unsafe"

	"coxless/api"
	"coxless/arrange"
	"coxless/expr"
	"coxless/lex"
	"coxless/parse"
	"coxless/prog"
)

// terms are those of a text that is an expression.
func terms(text string) []api.Term {
	l, _ := lex.Split(text)
	e, n, err := expr.Parse(l)
	if n != len(l)-1 || err != api.OK {
		panic(text)
	}
	return e
}

// line is the instruction of a text that is one, at this position.
func line(row, col int, text string) api.Line {
	l, _ := lex.Split(text)
	x, n, err := parse.Inst(l)
	if n != len(l)-1 || err != api.OK {
		panic(text)
	}
	x.Line, x.Col = row, col
	return x
}

func label(row, col int, name string) api.Item {
	return api.Item{Kind: api.ILabel, Name: name, Line: row, Col: col}
}

// packet is one with the tags whose names are in this text.
func packet(row, col int, tags string, lines ...api.Line) api.Item {
	return api.Item{Kind: api.IPacket, Lines: lines, End0: strings.Contains(tags, "endloop0"), End1: strings.Contains(tags, "endloop1"), Raw: strings.Contains(tags, "raw"), Line: row, Col: col}
}

// single is a packet of one instruction, whose first token is its own.
func single(row, col int, tags, text string) api.Item {
	return packet(row, col, tags, line(row, col, text))
}

func directive(kind uint8, row, col int, texts ...string) api.Item {
	var exprs [][]api.Term
	for _, text := range texts {
		exprs = append(exprs, terms(text))
	}
	return api.Item{Kind: kind, Exprs: exprs, Line: row, Col: col}
}

func equ(row, col int, name, text string) api.Item {
	return api.Item{Kind: api.IEqu, Name: name, Exprs: [][]api.Term{terms(text)}, Line: row, Col: col}
}

func section(row, col int, name string) api.Item {
	return api.Item{Kind: api.ISection, Name: name, Line: row, Col: col}
}

// told tells items so that empty lists and nil are the same.
func told(items []api.Item) string {
	return fmt.Sprintf("%+v", items)
}

func short(text string) string {
	return fmt.Sprintf("%.200q", text)
}

func isFree(name string) bool {
	return name != "" && name[0] != '.' && !parse.Reserved(name)
}

// isOfItsKind reports whether an item has what its kind requires, and nothing else.
func isOfItsKind(x api.Item) bool {
	for _, e := range x.Exprs {
		if !expr.Right(e) {
			return false
		}
	}
	isPlain := !x.End0 && !x.End1 && !x.Raw && len(x.Lines) == 0
	switch x.Kind {
	case api.ILabel:
		return isPlain && isFree(x.Name) && len(x.Exprs) == 0
	case api.IPacket:
		return x.Name == "" && len(x.Exprs) == 0 && len(x.Lines) > 0
	case api.IOrg, api.IAlign, api.ISpace:
		return isPlain && x.Name == "" && len(x.Exprs) == 1
	case api.IWord, api.IByte:
		return isPlain && x.Name == "" && len(x.Exprs) > 0
	case api.IEqu:
		return isPlain && isFree(x.Name) && len(x.Exprs) == 1
	case api.ISection:
		return isPlain && (x.Name == "code" || x.Name == "data") && len(x.Exprs) == 0
	}
	return false
}

// isBehind reports whether a position is behind another one.
func isBehind(row, col, otherRow, otherCol int) bool {
	return row > otherRow || row == otherRow && col > otherCol
}

// checkKinds asks for what P17.2 says of items.
func checkKinds(t *testing.T, text string, items []api.Item) {
	t.Helper()
	row, col := 0, 0
	for _, x := range items {
		if !isOfItsKind(x) || !isBehind(x.Line, x.Col, row, col) {
			t.Errorf("%s: %+v behind %d %d", short(text), x, row, col)
		}
		row, col = x.Line, x.Col
		for i, y := range x.Lines {
			if !isBehind(y.Line, y.Col, row, col) && (i > 0 || y.Line != row || y.Col != col) {
				t.Errorf("%s: the instruction %+v behind %d %d", short(text), y, row, col)
			}
			row, col = y.Line, y.Col
		}
	}
}

// check asks for these items.
func check(t *testing.T, text string, want ...api.Item) {
	t.Helper()
	items, diags := prog.Parse(text)
	if len(diags) != 0 || told(items) != told(want) {
		t.Errorf("%s: %.2000s, %v, not %.2000s", short(text), told(items), diags, told(want))
	}
	checkKinds(t, text, items)
}

// checkRight asks for any items of these kinds.
func checkRight(t *testing.T, text string, kinds ...uint8) {
	t.Helper()
	items, diags := prog.Parse(text)
	var got []uint8
	for _, x := range items {
		got = append(got, x.Kind)
	}
	if len(diags) != 0 || !slices.Equal(got, kinds) {
		t.Errorf("%s: %v, %v, not %v", short(text), got, diags, kinds)
	}
	checkKinds(t, text, items)
}

func checkWrong(t *testing.T, text string, want ...api.Diag) {
	t.Helper()
	items, diags := prog.Parse(text)
	if len(items) != 0 || !slices.Equal(diags, want) {
		t.Errorf("%s: %.500s, %v, not %v", short(text), told(items), diags, want)
	}
}

// form is that a form is wrong at this position.
func form(row, col int) api.Diag {
	return api.Diag{Line: row, Col: col, Code: api.ErrForm}
}

func long(row, col int) api.Diag {
	return api.Diag{Line: row, Col: col, Code: api.ErrLong}
}

// checkColumns asks of each text for ErrForm at this byte of its one line.
func checkColumns(t *testing.T, columns map[string]int) {
	t.Helper()
	for text, col := range columns {
		checkWrong(t, text, form(1, col))
		checkWrong(t, "\n"+text+"\n", form(2, col))
	}
}

// The examples of the chapter

func TestExamples(t *testing.T) {
	nop := api.Inst{Op: 1}
	check(t, "L: M: nop :raw",
		api.Item{Kind: 1, Name: "L", Line: 1, Col: 1},
		api.Item{Kind: 1, Name: "M", Line: 1, Col: 4},
		api.Item{Kind: 2, Lines: []api.Line{{Inst: nop, Line: 1, Col: 7}}, Raw: true, Line: 1, Col: 7})
	two := []api.Term{{Kind: 1, V: 2}}
	check(t, "{ nop\n r1 = #2 ; } :endloop0:raw",
		api.Item{Kind: 2, Lines: []api.Line{{Inst: nop, Line: 1, Col: 3}, {Inst: api.Inst{Op: 8, D: 1}, Value: two, Line: 2, Col: 2}}, End0: true, Raw: true, Line: 1, Col: 1})
	check(t, ".equ N, 4\n.org N*8\n.byte 1,-1",
		api.Item{Kind: 8, Name: "N", Exprs: [][]api.Term{{{Kind: 1, V: 4}}}, Line: 1, Col: 1},
		api.Item{Kind: 3, Exprs: [][]api.Term{{{Kind: 2, Name: "N"}, {Kind: 1, V: 8}, {Kind: 5, A: 0, B: 1}}}, Line: 2, Col: 1},
		api.Item{Kind: 6, Exprs: [][]api.Term{{{Kind: 1, V: 1}}, {{Kind: 1, V: 1}, {Kind: 6, A: 0}}}, Line: 3, Col: 1})
	checkColumns(t, map[string]int{"{ }": 3, "nop nop": 5, "L nop": 3, "nop:": 5})
	checkWrong(t, "{ nop\n.org 1", form(2, 1))
}

// P17.1: directives

// ofOne are the directives of one expression, and ofSeveral those of one or more.
var (
	ofOne     = map[string]uint8{".org": 3, ".align": 4, ".space": 7}
	ofSeveral = map[string]uint8{".word": 5, ".byte": 6}
)

var expressions = []string{"0", "1", "0x1F", "-1", "- - 2", "N", "_.x", "N*8", "(1+2)*3", "a-(b-(c))", "1099511627776", "((((((((((((((((1))))))))))))))))", "nop", "r1", "p0.new", ".org", "raw", "code", "if"}

func TestDirectivesOfOneExpression(t *testing.T) {
	for name, kind := range ofOne {
		for _, e := range expressions {
			check(t, name+" "+e, directive(kind, 1, 1, e))
			check(t, "\t\r "+name+"\t"+e+" // 1\n", directive(kind, 1, 4, e))
			check(t, "\n"+name+"(1)+"+e, directive(kind, 2, 1, "(1)+"+e))
		}
		checkColumns(t, map[string]int{name: len(name) + 1, name + "  ": len(name) + 3})
		for tail, at := range map[string]int{",": 0, "1,": 1, "1,2": 1, "1 2": 2, "1:": 1, "N:": 1, "1;": 1, "1}": 1, "{nop}": 0, "1 nop": 2, "N nop": 2, "#1": 0, "##1": 0, "+1": 0, "1+": 2, "1*": 2, "(1": 2, "1)": 1, "()": 1, "-": 1, "!1": 0, "=1": 0, ": 1": 0, "1 .org 2": 2, "1 :raw": 2} {
			checkColumns(t, map[string]int{name + " " + tail: len(name) + 2 + at})
		}
	}
}

func TestDirectivesOfSeveralExpressions(t *testing.T) {
	for name, kind := range ofSeveral {
		for _, e := range expressions {
			check(t, name+" "+e, directive(kind, 1, 1, e))
			check(t, name+" 1, "+e+" ,2", directive(kind, 1, 1, "1", e, "2"))
			check(t, " "+name+" "+e+","+e, directive(kind, 1, 2, e, e))
		}
		check(t, name+" 1,-1", directive(kind, 1, 1, "1", "-1"))
		many := slices.Repeat([]string{"1+a", "2"}, 500)
		check(t, name+" "+strings.Join(many, ","), directive(kind, 1, 1, many...))
		checkColumns(t, map[string]int{name: len(name) + 1, name + "  ": len(name) + 3})
		for tail, at := range map[string]int{",": 0, ",1": 0, "1,": 2, "1, ": 3, "1,2,": 4, "1,,2": 2, "1 2": 2, "1,2 3": 4, "1:": 1, "1;2": 1, "1,2;": 3, "1,#2": 2, "1,+2": 2, "1,2+": 4, "1,(2": 4, "1,2)": 3, "(1,2)": 2, "1,2 nop": 4, "1,{nop}": 2, "1,2 :raw": 4, "1,a b": 4} {
			checkColumns(t, map[string]int{name + " " + tail: len(name) + 2 + at})
		}
		checkWrong(t, name+" 1,\n2", form(1, len(name)+4), form(2, 1))
		checkWrong(t, name+" 1\n,2", form(2, 1))
		checkWrong(t, name+"\n1", form(1, len(name)+1), form(2, 1))
	}
}

func TestEqu(t *testing.T) {
	for _, e := range expressions {
		check(t, ".equ N, "+e, equ(1, 1, "N", e))
		check(t, "\n .equ\tx_1.y ,(1)+"+e+"\n", equ(2, 2, "x_1.y", "(1)+"+e))
	}
	for _, name := range freeNames() {
		check(t, ".equ "+name+", 1", equ(1, 1, name, "1"))
	}
	for _, name := range append(reservedNames(), ".x", ".", "..", ".equ", ".org", "1", ",", "#1", "(", "{") {
		checkColumns(t, map[string]int{".equ " + name + ", 2": 6})
	}
	checkColumns(t, map[string]int{
		".equ": 5, ".equ ": 6, ".equ N": 7, ".equ N,": 8, ".equ N 2": 8, ".equ N = 2": 8, ".equ N: 2": 7, ".equ N: nop": 7, ".equ ,2": 6, ".equ N,,2": 8, ".equ N,2,3": 9, ".equ N,2 3": 10, ".equ N,2:": 9, ".equ N,#2": 8,
		".equ N,2+": 10, ".equ N,(2": 10, ".equ (N),2": 6, ".equ N M,2": 8, ".equ N,2 nop": 10, ".equ 1,N": 6, ".equ N,2 M,3": 10, ".equ -N,2": 6, ".equ N+1,2": 7,
	})
	checkWrong(t, ".equ N,\n2", form(1, 8), form(2, 1))
	checkWrong(t, ".equ N\n,2", form(1, 7), form(2, 1))
	checkWrong(t, ".equ\nN,2", form(1, 5), form(2, 2))
}

func TestSection(t *testing.T) {
	check(t, ".section code", section(1, 1, "code"))
	check(t, "\n\t.section\tdata // code", section(2, 2, "data"))
	for _, name := range append(append(freeNames(), reservedNames()...), "text", "Code", "DATA", "codes", "dat", "code.", "data.new", ".code", ".data", ".", "1", "0x1", ":", ",", "#1", "(code)", "{", "-", "code.data") {
		if name != "code" && name != "data" {
			checkColumns(t, map[string]int{".section " + name: 10})
		}
	}
	checkColumns(t, map[string]int{
		".section": 9, ".section ": 10, ".section code data": 15, ".section code,data": 14, ".section code,": 14, ".section data:": 14, ".section data: nop": 14, ".section code 1": 15, ".section code nop": 15, ".section code code": 15, ".section data+1": 14, ".section code;": 14, ".section code }": 15,
	})
	checkWrong(t, ".section\ncode", form(1, 9), form(2, 1))
}

func TestNamesOfNoDirective(t *testing.T) {
	for _, name := range []string{".", "..", ".foo", ".orgs", ".or", ".Org", ".ORG", ".org.", ".org_", ".org1", "..org", "._org", ".words", ".wor", ".equ.", ".section.", ".sections", ".text", ".code", ".data", ".label", ".packet", ".nop", ".r1", ".new", ".raw", ".endloop0", ".L", "._", ".1", ".half", ".if"} {
		for _, tail := range []string{"", " 1", " 1,2", ": nop", " N, 1", " code", "="} {
			checkColumns(t, map[string]int{name + tail: 1, "L: " + name + tail: 4})
		}
	}
	// A directive's name without its dot is a name like any other.
	for _, name := range []string{"org", "align", "space", "word", "byte", "equ", "section"} {
		checkColumns(t, map[string]int{name + " 1": len(name) + 2})
		check(t, name+": .org 1", label(1, 1, name), directive(api.IOrg, 1, len(name)+3, "1"))
	}
}

// P17.1: labels

func freeNames() []string {
	return []string{
		"L", "x", "_", "_.", "a.b", "x.new", "raw", "endloop0", "endloop1", "org", "word", "NOP", "Nop", "nops", "nop.", "no", "If", "iff", "Code", "datum", "r", "p", "R1", "P0", "r32", "r01", "r00", "r100", "p4", "p00", "r1.", "r1.ne", "r1.new.new", "p0x", "r32.new", "p4.new",
		"add.", "addi", "movi", "mov", "cmp", "cmp.", "cmp.eqi", "loop", "loop2", "memd", "new", strings.Repeat("n", 32), "x" + strings.Repeat(".", 31),
	}
}

// beginners are the reserved names with which an instruction begins that has more tokens.
func beginners() []string {
	l := strings.Fields("if jump jumpr call memw memh memb loop0 loop1")
	for n := range 32 {
		l = append(l, fmt.Sprintf("r%d", n))
	}
	for n := range 4 {
		l = append(l, fmt.Sprintf("p%d", n))
	}
	return l
}

// others are the reserved names with which no instruction begins.
func others() []string {
	l := strings.Fields("add sub and or xor mux asl lsr asr mpy cmpy cmpyc cmp.eq cmp.gt cmp.gtu code data")
	for n := range 32 {
		l = append(l, fmt.Sprintf("r%d.new", n))
	}
	for n := range 4 {
		l = append(l, fmt.Sprintf("p%d.new", n))
	}
	return l
}

func reservedNames() []string {
	return append(append([]string{"nop"}, beginners()...), others()...)
}

func TestLabels(t *testing.T) {
	for _, name := range freeNames() {
		n := len(name)
		check(t, name+":", label(1, 1, name))
		check(t, "\n\t"+name+"\t: // nop\n", label(2, 2, name))
		check(t, name+":"+name+" : L:", label(1, 1, name), label(1, n+2, name), label(1, 2*n+5, "L"))
		check(t, name+":nop", label(1, 1, name), single(1, n+2, "", "nop"))
		check(t, name+": nop :raw", label(1, 1, name), single(1, n+3, "raw", "nop"))
		check(t, name+":{nop}", label(1, 1, name), packet(1, n+2, "", line(1, n+3, "nop")))
		check(t, name+":\n{nop}", label(1, 1, name), packet(2, 1, "", line(2, 2, "nop")))
		check(t, name+":.byte "+name+",1", label(1, 1, name), directive(api.IByte, 1, n+2, name, "1"))
	}
	many := make([]api.Item, 1000)
	for i := range many {
		many[i] = label(1, 1+2*i, "L")
	}
	check(t, strings.Repeat("L:", len(many)), many...)
}

func TestLabelsAheadOfEachItem(t *testing.T) {
	for text, item := range map[string]func(col int) api.Item{
		"nop":             func(col int) api.Item { return single(1, col, "", "nop") },
		"r1 = r2 :raw":    func(col int) api.Item { return single(1, col, "raw", "r1 = r2") },
		"jump L:endloop1": func(col int) api.Item { return single(1, col, "endloop1", "jump L") },
		"{nop;\nnop}":     func(col int) api.Item { return packet(1, col, "", line(1, col+1, "nop"), line(2, 1, "nop")) },
		".org 4":          func(col int) api.Item { return directive(api.IOrg, 1, col, "4") },
		".align L":        func(col int) api.Item { return directive(api.IAlign, 1, col, "L") },
		".space 4":        func(col int) api.Item { return directive(api.ISpace, 1, col, "4") },
		".word 4,5":       func(col int) api.Item { return directive(api.IWord, 1, col, "4", "5") },
		".byte 4":         func(col int) api.Item { return directive(api.IByte, 1, col, "4") },
		".equ L,4":        func(col int) api.Item { return equ(1, col, "L", "4") },
		".section code":   func(col int) api.Item { return section(1, col, "code") },
	} {
		check(t, text, item(1))
		check(t, "L:"+text, label(1, 1, "L"), item(3))
		check(t, "L: M :"+text, label(1, 1, "L"), label(1, 4, "M"), item(7))
		check(t, "a:b:a: "+text, label(1, 1, "a"), label(1, 3, "b"), label(1, 5, "a"), item(8))
	}
}

func TestWrongLabels(t *testing.T) {
	for _, name := range reservedNames() {
		n := len(name)
		at := 1
		switch {
		case name == "nop": // a packet, and the : of a tag
			at = n + 3
		case slices.Contains(beginners(), name):
			at = n + 1
		}
		checkColumns(t, map[string]int{name + ": L": at, "L: " + name + ": L": 3 + at, "L:M:" + name + ": L": 4 + at})
	}
	for _, name := range []string{".L", ".", ".nop", ".new", ".1"} {
		checkColumns(t, map[string]int{name + ":": 1, name + ": nop": 1, "L: " + name + ": nop": 4})
	}
	for _, name := range []string{".org", ".word", ".section", ".equ"} {
		checkColumns(t, map[string]int{name + ":": len(name) + 1, name + ": nop": len(name) + 1})
	}
	for _, name := range freeNames() {
		n := len(name)
		checkColumns(t, map[string]int{
			name: n + 1, name + " ": n + 2, name + " // :": n + 6, name + " nop": n + 2, name + " :" + name: 2*n + 3, "L:" + name: n + 3, "L: " + name + " nop": n + 5, name + " .org 1": n + 2, name + "{nop}": n + 1, name + "=r1": n + 1, name + ";": n + 1, name + ",": n + 1, name + " " + name + ":": n + 2, name + "::": n + 2, name + ":,": n + 2,
		})
		checkWrong(t, name+"\n: nop", form(1, n+1), form(2, 1))
	}
	checkColumns(t, map[string]int{"a:b:c": 6, ":": 1, ": L": 1, ":raw": 1, "L: :": 4, "L: : nop": 4, "1: nop": 1, "L: 1: nop": 4, "L: 5": 4, "nop L:": 5, "nop; L: nop": 4, ".org 1 L:": 8, "L:M nop": 5, "(L): nop": 1, "L:: nop": 3})
}

// P17.1: packets

// instructions are of each form of the table of chapter 16, with conditions.
var instructions = []string{
	"nop", "r1 = r2", "r1 = #5", "r1 = ##L+4", "r1 = add(r2,r3)", "r4 = sub(r5,r6)", "r1=and(r2,r3)", "r1 = or(r2,r3)", "r1 = xor(r2,r3)", "r1 = add(r2,#-1)", "r31 = mux(p0,r1,r2)", "r1 = asl(r2,#N*(2))", "r1 = lsr(r2,#3)", "r1 = asr(r2,#3)",
	"r1 = mpy(r2,r3)", "r1 = cmpy(r2,r3)", "r1 = cmpyc(r2,r3)", "r1 = memw(r2+#4)", "r1 = memh(r2+##x)", "r1 = memb(r2+#0)", "p1 = cmp.eq(r1,r2)", "p1 = cmp.gt(r1,r2)", "p3 = cmp.gtu(r1,r2)", "p0 = cmp.eq(r1,#0x10)",
	"memw(r2+#0) = r1", "memh(r2+##L) = r3.new", "memb(r2 + #-1) = r0", "jump L", "jump ##L-4", "jumpr r31", "call 64", "loop0(x,#10)", "loop1(##x,r3)", "loop0(L+4,#N)", "loop1(L,#(1))",
	"if (p0) r1 = r2", "if (!p1) jump L", "if (p2.new) r1 = #5", "if (!p3.new) jumpr r1", "if(p0)r1=add(r2,r3)",
}

func TestPacketsOfOneInstruction(t *testing.T) {
	for _, text := range instructions {
		check(t, text, single(1, 1, "", text))
		check(t, "\n\t "+text+" // nop", single(2, 3, "", text))
		check(t, text+":raw", single(1, 1, "raw", text))
		check(t, text+" : endloop0\n"+text, single(1, 1, "endloop0", text), single(2, 1, "", text))
		check(t, "{"+text+"}", packet(1, 1, "", line(1, 2, text)))
		check(t, " {\n\n "+text+"\n}:endloop1", packet(1, 2, "endloop1", line(3, 2, text)))
	}
}

func TestPacketsOfSeveralInstructions(t *testing.T) {
	for _, a := range instructions {
		for _, b := range instructions {
			n := len(a)
			check(t, "{"+a+";"+b+"}", packet(1, 1, "", line(1, 2, a), line(1, 3+n, b)))
			check(t, "L: { "+a+"\n"+b+" }", label(1, 1, "L"), packet(1, 4, "", line(1, 6, a), line(2, 1, b)))
		}
	}
	var text strings.Builder
	want := packet(1, 1, "raw")
	for i, x := range instructions {
		text.WriteString(" ;\n" + x)
		want.Lines = append(want.Lines, line(i+2, 1, x))
	}
	check(t, "{"+text.String()+"}:raw", want)
}

func TestSeparators(t *testing.T) {
	nop := func(row, col int) api.Line { return line(row, col, "nop") }
	for text, lines := range map[string][]api.Line{
		"{nop}":                         {nop(1, 2)},
		"{ nop }":                       {nop(1, 3)},
		"{;nop}":                        {nop(1, 3)},
		"{nop;}":                        {nop(1, 2)},
		"{;;;nop;;;}":                   {nop(1, 5)},
		"{\nnop}":                       {nop(2, 1)},
		"{nop\n}":                       {nop(1, 2)},
		"{\n\n\nnop\n\n\n}":             {nop(4, 1)},
		"{\n;\n;;\nnop;\n\n;}":          {nop(4, 1)},
		"{ // nop\n nop // nop\n }":     {nop(2, 2)},
		"{nop;nop}":                     {nop(1, 2), nop(1, 6)},
		"{nop\nnop}":                    {nop(1, 2), nop(2, 1)},
		"{nop;;nop}":                    {nop(1, 2), nop(1, 7)},
		"{nop\n\nnop}":                  {nop(1, 2), nop(3, 1)},
		"{nop;\nnop}":                   {nop(1, 2), nop(2, 1)},
		"{nop\n;nop}":                   {nop(1, 2), nop(2, 2)},
		"{nop;\n;\n;nop}":               {nop(1, 2), nop(3, 2)},
		"{;;nop;;\n;nop}":               {nop(1, 4), nop(2, 2)},
		"{nop // ; nop\n;nop}":          {nop(1, 2), nop(2, 2)},
		"{nop;nop;nop}":                 {nop(1, 2), nop(1, 6), nop(1, 10)},
		"{\nnop\nnop\nnop\nnop\n}":      {nop(2, 1), nop(3, 1), nop(4, 1), nop(5, 1)},
		"{nop;nop\nnop;nop;nop}":        {nop(1, 2), nop(1, 6), nop(2, 1), nop(2, 5), nop(2, 9)},
		"{\r\n nop ;\r\n nop\t;\r\n}\r": {nop(2, 2), nop(3, 2)},
	} {
		check(t, text, packet(1, 1, "", lines...))
		check(t, text+" :raw:endloop0\n", packet(1, 1, "raw endloop0", lines...))
		check(t, text+"\n"+"nop", packet(1, 1, "", lines...), single(2+strings.Count(text, "\n"), 1, "", "nop"))
	}
}

func TestWrongSeparators(t *testing.T) {
	checkColumns(t, map[string]int{
		"{}": 2, "{ }": 3, "{;}": 3, "{ ;; }": 6, "{} nop": 2, "{}:raw": 2, "{nop nop}": 6, "{ nop nop }": 7, "{nop,nop}": 5, "{,nop}": 2, "{nop,}": 5, "{nop;,nop}": 6, "{nop:nop}": 5, "{nop:raw}": 5, "{nop;:raw}": 6, "{:raw}": 2,
		"{{nop}}": 2, "{nop{nop}}": 5, "{nop;{nop}}": 6, "{;{nop}}": 3, "{ { }": 3, "{L: nop}": 2, "{ L: nop }": 3, "{nop;L: nop}": 6, "{nop L: nop}": 6, "{L:}": 2, "{.org 1}": 2, "{nop;.org 1}": 6, "{nop .org 1}": 6, "{.foo}": 2, "{5}": 2, "{add}": 2, "{r1:}": 4,
		"{r1 = r2 r3 = r4}": 10, "{jump L nop}": 9, "{jump L M}": 9, "{jump L;M}": 9, "{r1}": 4, "{r1 =}": 6, "{nop;r1 = #}": 12, "{r1 = #5)}": 9, "{nop;add}": 6,
		"}": 1, "nop }": 5, "L: }": 4, "; nop": 1, "nop ; nop": 5, "nop;": 4, ";": 1, "{nop};": 6, "{nop}}": 6, "{nop} nop": 7, "{nop}{nop}": 6, "{nop},": 6, "{nop} L:": 7, "{nop} .org 1": 7, "{nop}raw": 6, "{nop} 5": 7, "{nop}=": 6, ".org 1 }": 8, "L }": 3,
	})
}

// P17.1: a packet that goes on over lines

func TestWrongLinesInAPacket(t *testing.T) {
	checkWrong(t, "{\n}", form(2, 1))
	checkWrong(t, "{\n\n ; }\nnop", form(3, 4))
	checkWrong(t, "{\n{\nnop\n}\n}", form(2, 1), form(4, 1), form(5, 1))
	checkWrong(t, "{ nop\nnop nop\n}", form(2, 5), form(3, 1))
	checkWrong(t, "{ nop )\nnop\nnop nop\n}:raw\nnop", form(1, 7), form(3, 5), form(4, 1))
	checkWrong(t, "{ nop\nL: nop\nM: nop\n}", form(2, 1), form(4, 1))
	checkWrong(t, "{\n.org 1\n.org 2\n.org\n}\n", form(2, 1), form(4, 5), form(5, 1))
	checkWrong(t, "{ nop\n.org 1", form(2, 1))
	checkWrong(t, "{ nop\n .section code\nL:\n}", form(2, 2), form(4, 1))
	checkWrong(t, "{ nop } nop\nnop\n}", form(1, 9), form(3, 1))
	checkWrong(t, "{ nop } {\nnop\n}", form(1, 9), form(3, 1))
	checkWrong(t, "{\nnop\n} nop\n nop", form(3, 3))
	checkWrong(t, "{\nnop\n}:\nraw", form(3, 3), form(4, 4))
	checkWrong(t, "{\nnop\n}\n:raw", form(4, 1))
	checkWrong(t, "{\nnop\n}:raw\n:endloop0", form(4, 1))
	checkWrong(t, "L\n{\nnop\n}", form(1, 2))
	checkWrong(t, "L:\n{\nnop )\n}", form(3, 5), form(4, 1))
	// The end of the line at which an instruction breaks off is the last of what is left out.
	checkWrong(t, "{ r1 =\nr2 }", form(1, 7), form(2, 4))
	checkWrong(t, "{ r1 =\nnop }", form(1, 7), form(2, 5))
	checkWrong(t, "{ r1 =\nnop\n}", form(1, 7), form(3, 1))
	checkWrong(t, "{ nop; r1 = add(r2,\n.word 1\nr3)\n}", form(1, 20), form(3, 3), form(4, 1))
	checkWrong(t, "r1 =\nr2", form(1, 5), form(2, 3))
	checkWrong(t, "jump\nL", form(1, 5), form(2, 2))
	checkWrong(t, "jump L+\nnop", form(1, 8))
	checkWrong(t, "{ jump\nnop\n}", form(1, 7), form(3, 1))
	checkWrong(t, "if (p0)\nr1 = r2", form(1, 8))
	checkWrong(t, "{ if (p0)\nr1 = r2 }", form(1, 10), form(2, 9))
}

func TestPacketsThatTheEndInterrupts(t *testing.T) {
	checkEnd := func(text string, row, col int) {
		t.Helper()
		checkWrong(t, text, form(row, col))
		checkWrong(t, "nop\n.org 1\n"+text, form(row+2, col))
	}
	checkEnd("{", 1, 2)
	checkEnd("{ ", 1, 3)
	checkEnd("{;", 1, 3)
	checkEnd("{nop", 1, 5)
	checkEnd("{nop;", 1, 6)
	checkEnd("{nop // }", 1, 10)
	checkEnd("{nop;nop", 1, 9)
	checkEnd("{\n", 2, 1)
	checkEnd("{\n\n\n", 4, 1)
	checkEnd("{\n;\n ", 3, 2)
	checkEnd("{nop\n", 2, 1)
	checkEnd("{nop\n\n", 3, 1)
	checkEnd("{nop\n;", 2, 2)
	checkEnd("{nop\n;\n\t", 3, 2)
	checkEnd("{nop\nnop", 2, 4)
	checkEnd("{\nnop\n // }\n\n", 5, 1)
	checkEnd("L: {\nnop", 2, 4)
	checkEnd("{ r1", 1, 5)
	checkEnd("{ r1 =", 1, 7)
	checkEnd("{\nr1 = #", 2, 7)
	checkWrong(t, "{ r1 =\n", form(1, 7))
	checkWrong(t, "{ r1 =\n{\n", form(1, 7), form(3, 1))
	checkWrong(t, "nop nop\n{\nnop", form(1, 5), form(3, 4))
}

// P17.1: tags

func TestTags(t *testing.T) {
	all := []string{"endloop0", "endloop1", "raw"}
	for set := range 8 {
		var chosen []string
		for i, tag := range all {
			if set>>i&1 == 1 {
				chosen = append(chosen, tag)
			}
		}
		for tags := range arrange.Orders(chosen) {
			for _, mark := range []string{":", " :", ": ", "\t: "} {
				text := ""
				for _, tag := range tags {
					text += mark + tag
				}
				has := strings.Join(tags, " ")
				check(t, "nop"+text, single(1, 1, has, "nop"))
				check(t, "nop"+text+" // :raw\n", single(1, 1, has, "nop"))
				check(t, "L: M: r1 = r2"+text, label(1, 1, "L"), label(1, 4, "M"), single(1, 7, has, "r1 = r2"))
				check(t, "{nop}"+text+"\nnop", packet(1, 1, has, line(1, 2, "nop")), single(2, 1, "", "nop"))
				check(t, "{nop\n jump L\n}"+text+"\n{nop}", packet(1, 1, has, line(1, 2, "nop"), line(2, 2, "jump L")), packet(4, 1, "", line(4, 2, "nop")))
				checkWrong(t, "nop"+text+" nop", form(1, 5+len(text)))
				checkWrong(t, "{nop\n}"+text+" nop\n", form(2, 3+len(text)))
				checkWrong(t, "nop"+text+" raw", form(1, 5+len(text)))
				checkWrong(t, "nop"+text+" {", form(1, 5+len(text)))
			}
		}
	}
}

func TestTagsTwice(t *testing.T) {
	all := []string{"endloop0", "endloop1", "raw"}
	for tags := range arrange.Orders(all) {
		for n := 1; n < len(tags); n++ {
			ahead := "nop:" + strings.Join(tags[:n], ":")
			for _, tag := range tags[:n] {
				checkColumns(t, map[string]int{ahead + ":" + tag: len(ahead) + 2, ahead + ": " + tag + ":" + tags[n]: len(ahead) + 3})
			}
			checkColumns(t, map[string]int{ahead + ":": len(ahead) + 2, ahead + "::": len(ahead) + 2, ahead + ":x": len(ahead) + 2, ahead + ":nop": len(ahead) + 2})
		}
		// Behind all tags no : can follow, whatever is behind it.
		ahead := "nop:" + strings.Join(tags, ":")
		for _, more := range append(all, "", "x", " nop", ":", "1") {
			checkColumns(t, map[string]int{ahead + ":" + more: len(ahead) + 1, "{" + ahead[:3] + "}" + ahead[3:] + " :" + more: len(ahead) + 4})
		}
	}
}

func TestWrongTags(t *testing.T) {
	for _, tag := range append(append(reservedNames(), slices.DeleteFunc(freeNames(), func(name string) bool { return name == "raw" || strings.HasPrefix(name, "endloop") })...),
		"end", "endloop", "endloop2", "endloop00", "endloop01", "endloop0.", "Endloop0", "ENDLOOP1", "endloop_0", "raw.", "Raw", "RAW", "rawr", ".raw", "dup", "End0", "new", ".", ".org", "1", "0x0", ":", ";", "{", "}", "(raw)", "#", "##", "=", ",", "-", "!raw") {
		checkColumns(t, map[string]int{"nop:" + tag: 5, "nop : " + tag: 7, "{nop}:" + tag: 7, "nop:raw: " + tag: 10, "{nop} :endloop1 :endloop0 : " + tag: 29, "L: nop:" + tag: 8})
	}
	checkColumns(t, map[string]int{"nop:": 5, "nop : ": 7, "nop:raw:": 9, "{nop}:": 7, "r1 = r2:": 9, "jump L:": 8, "nop :raw raw": 10, "nop raw": 5, "nop :endloop0 endloop1": 15, "nop:raw,endloop0": 8, "nop:raw;": 8, "nop:raw}": 8, ":raw": 1, ":raw nop": 1, "L: :raw": 4, ".org 1:raw": 7, ".section code:raw": 14, "raw": 4, "raw nop": 5})
	checkWrong(t, "nop:\nraw", form(1, 5), form(2, 4))
	checkWrong(t, "nop\n:raw", form(2, 1))
	// Here raw is a label.
	check(t, "raw: nop :raw", label(1, 1, "raw"), single(1, 6, "raw", "nop"))
	check(t, "raw:endloop0:nop:endloop1", label(1, 1, "raw"), label(1, 5, "endloop0"), single(1, 14, "endloop1", "nop"))
}

// P17.1: the errors of expressions and instructions

func TestErrorsOfExpressions(t *testing.T) {
	deep := strings.Repeat("(", 17)
	for _, ahead := range []string{".org ", ".align ", ".space ", ".word ", ".byte ", ".word 1,", ".byte 1,2,(3),", ".equ N,", "L: .org ", "jump ", "L: call ", "r1 = #", "loop0(L,#", "{ jump ", "{ nop; jump ", "nop\n\n{ nop\n  r1 = ##"} {
		row := 1 + strings.Count(ahead, "\n")
		col := len(ahead) - strings.LastIndexByte(ahead, '\n')
		checkWrong(t, ahead+deep, long(row, col+16))
		checkWrong(t, ahead+deep+"1"+strings.Repeat(")", 17), long(row, col+16))
		checkWrong(t, ahead+strings.Repeat("-", 17)+"1", long(row, col+16))
		checkWrong(t, ahead+"1*("+deep+"\nnop", long(row, col+2+16))
		checkWrong(t, ahead+deep[:16], form(row, col+16))
		checkWrong(t, ahead+deep[:16]+")", form(row, col+16))
		checkWrong(t, ahead+")", form(row, col))
		checkWrong(t, ahead+"1+", form(row, col+2))
		checkWrong(t, ahead+"(1\nnop", form(row, col+2))
		checkWrong(t, ahead+"a*\n.byte "+deep, form(row, col+2), long(row+1, 7+16))
	}
}

func TestErrorsOfInstructions(t *testing.T) {
	for text, at := range map[string]int{
		"r1 = add(r2 r3)": 12, "if (p0) p1 = cmp.eq(r1,r2)": 8, "if (p0) r1 = add(r2,#1)": 20, "r1 r2": 3, "r1 = 5": 5, "p1 = r2": 5, "r1 = add": 8, "r1 = sub(r2,#1)": 12, "r1 = asl(r2,##3)": 12, "memw(r1+#4) r2": 12, "memw(r1)": 7, "jump": 4, "jumpr L": 6, "loop0(L)": 7, "loop1(L,3)": 8, "if p0": 3, "r1 = r32": 5, "p4 = cmp.eq(r1,r2)": 3, "r32 = r1": 4, "add(r1,r2)": 0, "mux": 0, "p0.new": 0, "5": 0, "(": 0, "=": 0,
	} {
		inPacket := at
		if text == "p4 = cmp.eq(r1,r2)" || text == "r32 = r1" {
			// p4 and r32 may name labels, but not in { }.
			inPacket = 0
		}
		checkColumns(t, map[string]int{text: at + 1, "L: " + text: at + 4, "{" + text + "}": inPacket + 2, "{nop;" + text + "}": inPacket + 6, "{ nop ;; " + text + "; nop }:raw": inPacket + 10})
		checkWrong(t, "nop\n{\n"+text+"\nnop\n}\n", form(3, inPacket+1), form(5, 1))
	}
}

// P17.1: where diagnostics are, which of them, and how many

func TestNextLineIsRead(t *testing.T) {
	checkWrong(t, "nop nop\nfoo\n% %\nnop\n.word 1099511627777", form(1, 5), form(2, 4), form(3, 1), form(3, 3), api.Diag{Line: 5, Col: 7, Code: api.ErrRange}, form(5, 20))
	checkWrong(t, "foo\n\nL:\nnop\n.foo\n.org 1\nbar\n\n", form(1, 4), form(5, 1), form(7, 4))
	checkWrong(t, "L: M: nop nop\nnop", form(1, 11))
	checkWrong(t, "nop\nL: L nop\nnop", form(2, 6))
	// The first of two is told.
	checkWrong(t, "nop nop nop", form(1, 5))
	checkWrong(t, "foo foo : :", form(1, 5))
	checkWrong(t, ".org , ,", form(1, 6))
	checkWrong(t, ".foo .bar\n5 6", form(1, 1), form(2, 1))
	checkWrong(t, "L: .equ r1 r2, )", form(1, 9))
	checkWrong(t, "{ nop nop nop nop", form(1, 7))
	checkWrong(t, "nop :raw:raw:raw", form(1, 10))
	checkWrong(t, "{ ) } ) {\n) ( )", form(1, 3), form(2, 1))
}

func TestDiagnosticsOfLex(t *testing.T) {
	// A line without what lex has left out may be right.
	checkWrong(t, "%", form(1, 1))
	checkWrong(t, "%%\n", form(1, 1), form(1, 2))
	checkWrong(t, "nop %", form(1, 5))
	checkWrong(t, "% nop", form(1, 1))
	checkWrong(t, "L % : nop", form(1, 3))
	checkWrong(t, "{ nop\n% }", form(2, 1))
	checkWrong(t, ".org 1 + % 2", form(1, 10))
	checkWrong(t, "nop\nnop / nop", form(2, 5), form(2, 7))
	checkWrong(t, "nop\x00", form(1, 4))
	checkWrong(t, "\xef\xbb\xbfnop", form(1, 1), form(1, 2), form(1, 3))
	checkWrong(t, "nop \"nop\"", form(1, 5), form(1, 6), form(1, 9))
	// Or it is wrong in another place, ahead of it or behind it.
	checkWrong(t, "% nop nop", form(1, 1), form(1, 7))
	checkWrong(t, "nop nop %", form(1, 5), form(1, 9))
	checkWrong(t, "nop % nop %", form(1, 5), form(1, 7), form(1, 11))
	checkWrong(t, "foo %", form(1, 5), form(1, 6))
	checkWrong(t, "% foo", form(1, 1), form(1, 6))
	checkWrong(t, ".word 1_", form(1, 7), form(1, 9))
	checkWrong(t, ".word 1_, 2", form(1, 7), form(1, 9))
	checkWrong(t, ".word 1, 0x", form(1, 10), form(1, 12))
	checkWrong(t, ".word 1099511627777, 2", api.Diag{Line: 1, Col: 7, Code: api.ErrRange}, form(1, 20))
	checkWrong(t, ".word 2, -1099511627777", api.Diag{Line: 1, Col: 11, Code: api.ErrRange}, form(1, 24))
	checkWrong(t, "r1 = #0x10000000001", api.Diag{Line: 1, Col: 7, Code: api.ErrRange}, form(1, 20))
	checkWrong(t, strings.Repeat("n", 33)+": nop", long(1, 1), form(1, 34))
	checkWrong(t, "L: "+strings.Repeat("n", 33)+" nop", long(1, 4))
	checkWrong(t, ".org "+strings.Repeat("n", 33), long(1, 6), form(1, 39))
	// Over several lines, those of both in the order of the text.
	checkWrong(t, "nop %\nnop nop\n%\nfoo\n% .foo %", form(1, 5), form(2, 5), form(3, 1), form(4, 4), form(5, 1), form(5, 3), form(5, 8))
	checkWrong(t, "{ %\nnop nop %\n% }", form(1, 3), form(2, 5), form(2, 9), form(3, 1), form(3, 3))
}

// rows are n diagnostics at this byte of as many lines.
func rows(from, n, col int) []api.Diag {
	var l []api.Diag
	for i := range n {
		l = append(l, form(from+i, col))
	}
	return l
}

// columns are n diagnostics at neighbouring bytes of a line.
func columns(row, from, n int) []api.Diag {
	var l []api.Diag
	for i := range n {
		l = append(l, form(row, from+i))
	}
	return l
}

func TestManyDiagnostics(t *testing.T) {
	for _, n := range []int{99, 100, 101, 150, 1000} {
		checkWrong(t, strings.Repeat("foo\n", n), rows(1, min(n, 100), 4)...)
		checkWrong(t, strings.Repeat("nop\n", 7)+strings.Repeat("nop nop\n", n)+"nop", rows(8, min(n, 100), 5)...)
		checkWrong(t, strings.Repeat("%\n", n), rows(1, min(n, 100), 1)...)
		checkWrong(t, strings.Repeat("%", n), columns(1, 1, min(n, 100))...)
		checkWrong(t, strings.Repeat("%", n)+" foo\n.foo", append(columns(1, 1, n), form(1, n+5), form(2, 1))[:100]...)
		checkWrong(t, "foo "+strings.Repeat("%", n), append(columns(1, 5, n), form(1, n+5))[:100]...)
		checkWrong(t, "nop nop "+strings.Repeat("%", n), slices.Concat(rows(1, 1, 5), columns(1, 9, n))[:100]...)
		checkWrong(t, "nop nop\n"+strings.Repeat("%", n)+"\nfoo", slices.Concat(rows(1, 1, 5), columns(2, 1, n), rows(3, 1, 4))[:100]...)
		checkWrong(t, strings.Repeat("%", n)+"\nfoo\n%", slices.Concat(columns(1, 1, n), rows(2, 1, 4), rows(3, 1, 1))[:100]...)
		checkWrong(t, strings.Repeat("foo\n", n)+"%\nfoo", slices.Concat(rows(1, n, 4), rows(n+1, 1, 1), rows(n+2, 1, 4))[:100]...)
		checkWrong(t, "%\n"+strings.Repeat("foo\n", n)+"%", slices.Concat(rows(1, 1, 1), rows(2, n, 4), rows(n+2, 1, 1))[:100]...)
	}
	for _, n := range []int{1, 50, 99, 100} {
		checkWrong(t, strings.Repeat("foo\n", n)+strings.Repeat("%\n", 150), slices.Concat(rows(1, n, 4), rows(n+1, 150, 1))[:100]...)
		checkWrong(t, strings.Repeat("%\n", n)+strings.Repeat("foo\n", 150), slices.Concat(rows(1, n, 1), rows(n+1, 150, 4))[:100]...)
		checkWrong(t, strings.Repeat("foo\n", n), rows(1, n, 4)...)
		checkWrong(t, strings.Repeat("%\n", n)+".org 1\nL: nop", rows(1, n, 1)...)
	}
	var both []api.Diag
	for row := range 60 {
		both = append(both, form(row+1, 1), form(row+1, 7), form(row+1, 11))
	}
	checkWrong(t, strings.Repeat("% nop nop %\n", 60), both[:100]...)
	checkWrong(t, strings.Repeat("% nop nop %\n", 33), both[:99]...)
	checkWrong(t, strings.Repeat("% nop nop %\n", 33)+"foo\nfoo", append(both[:99:99], form(34, 4))...)
	checkWrong(t, strings.Repeat("% nop nop %\n", 33)+"%\nfoo", append(both[:99:99], form(34, 1))...)
}

// P17.1: limits

func TestLongTexts(t *testing.T) {
	check(t, "nop"+strings.Repeat(" ", api.MaxText-3), single(1, 1, "", "nop"))
	for _, text := range []string{strings.Repeat(" ", api.MaxText+1), "nop" + strings.Repeat(" ", api.MaxText), "nop nop\n%" + strings.Repeat("\n", api.MaxText), strings.Repeat("%", api.MaxText+1)} {
		checkWrong(t, text, long(1, 1))
	}
}

// checkCount asks for a program of so many packets.
func checkCount(t *testing.T, text string, want int) {
	t.Helper()
	items, diags := prog.Parse(text)
	packets := 0
	for _, x := range items {
		if x.Kind == api.IPacket {
			packets++
		}
	}
	if len(diags) != 0 || packets != want {
		t.Errorf("%s: %d packets, %v, not %d", short(text), packets, diags, want)
	}
}

func TestManyPackets(t *testing.T) {
	t.Parallel()
	const n = api.MaxPackets
	most := "L: nop\n.org 1\n" + strings.Repeat("nop\n", n-1)
	checkCount(t, most+"L:\n.org 1\n.word 1,2\nM: N: .section data\n\n// nop", n)
	checkWrong(t, most+"nop", long(n+2, 1))
	// Nor is any other packet one too many, and the lines between are read.
	checkWrong(t, most+"\tL: M: nop :raw\n { nop\n}\n.org 1\n.foo\nM:\nif (p0) jump L // L\n%\nL nop\n\nr1 = r2",
		long(n+2, 8), long(n+3, 2), form(n+4, 1), form(n+6, 1), long(n+8, 1), form(n+9, 1), form(n+10, 3), long(n+12, 1))
}

// Packets of several instructions count once.
func TestManyPacketsOfSeveralInstructions(t *testing.T) {
	t.Parallel()
	const n = api.MaxPackets
	most := strings.Repeat("{nop;nop}\n", n-2) + "{ nop\nnop\n}\nL: nop :raw\n"
	checkCount(t, most, n)
	checkWrong(t, most+"{nop}", long(n+3, 1))
	checkWrong(t, most+strings.Repeat("foo\n", 99)+"nop\nnop", append(rows(n+3, 99, 4), long(n+102, 1))...)
}

// P17.1: wrong inputs, and texts of nothing

func TestTextsOfNothing(t *testing.T) {
	for _, text := range []string{"", " ", "\t", "\r", "\n", "\n\n\n", " \n\t\n\r\n ", "//", "// nop", "// nop\n", "//\n//\n", " // { } %\n\n\t// \xff\x00", strings.Repeat("\n", 10000), "//" + strings.Repeat("/", 10000)} {
		check(t, text)
	}
}

func TestEachByte(t *testing.T) {
	for c := range 256 {
		b := string([]byte{byte(c)})
		switch {
		case strings.Contains(" \t\r\n", b):
			check(t, b)
			check(t, "nop"+b, single(1, 1, "", "nop"))
		case c == '_' || 'A' <= c && c <= 'Z' || 'a' <= c && c <= 'z':
			checkWrong(t, b, form(1, 2))
			check(t, b+":", label(1, 1, b))
		case c == '{':
			checkWrong(t, b, form(1, 2))
			checkWrong(t, "nop "+b, form(1, 5))
		case c == ':':
			checkWrong(t, b, form(1, 1))
			checkWrong(t, "nop "+b, form(1, 6))
		default:
			// A sign, a digit or a dot with which no line begins, or what is in no token
			checkWrong(t, b, form(1, 1))
			checkWrong(t, "nop "+b, form(1, 5))
		}
	}
}

func TestOtherLanguages(t *testing.T) {
	checkWrong(t, "mov r1, r2\nadd r1, r2, r3\n; nop\n# nop\n.text\nmain:\n\tret\n", form(1, 5), form(2, 1), form(3, 1), form(4, 1), form(5, 1), form(7, 5))
	checkWrong(t, "packet {", form(1, 8))
	checkWrong(t, "/* nop */", form(1, 1), form(1, 2), form(1, 9))
}

// The rules R3 and R4, and how long it may take

func TestNewMemory(t *testing.T) {
	const text = "L: { r1 = #x+1; loop0(a,#b*2)\n} :raw\n.word 1,2+N,-3\n.byte 1,2\n.equ N,L+4\n.org N*8"
	items, _ := prog.Parse(text)
	again, _ := prog.Parse(text)
	want := told(items)
	var lists [][]api.Term
	for _, x := range items {
		lists = append(lists, x.Exprs...)
		for _, y := range x.Lines {
			lists = append(lists, y.Value, y.Count)
		}
	}
	for i := range lists {
		other := fmt.Sprint(lists[i+1:])
		clear(lists[i][:cap(lists[i])])
		if fmt.Sprint(lists[i+1:]) != other {
			t.Errorf("the list %d shares memory", i)
		}
	}
	for i := range items {
		other := told(items[i+1:])
		clear(items[i].Exprs[:cap(items[i].Exprs)])
		clear(items[i].Lines[:cap(items[i].Lines)])
		if told(items[i+1:]) != other {
			t.Errorf("the lists of item %d share memory", i)
		}
	}
	clear(items[:cap(items)])
	if told(again) != want {
		t.Errorf("%s, not %s", told(again), want)
	}
	_, diags := prog.Parse("foo\n%")
	clear(diags[:cap(diags)])
	checkWrong(t, "foo\n%", form(1, 4), form(2, 1))
}

func TestTheTextIsNotKept(t *testing.T) {
	const text = "L.1: M: { r1 = #x+1; jump y }\n.equ N,L+4\n.section data"
	b := []byte(text)
	items, _ := prog.Parse(unsafe.String(&b[0], len(b)))
	if string(b) != text {
		t.Errorf("%q", b)
	}
	want, _ := prog.Parse(text)
	clear(b)
	if told(items) != told(want) {
		t.Errorf("%s, not %s", told(items), told(want))
	}
}

func TestLongLines(t *testing.T) {
	const n = 1 << 18
	checkRight(t, strings.Repeat("L:", n), slices.Repeat([]uint8{api.ILabel}, n)...)
	checkRight(t, ".word 1"+strings.Repeat(",1", n), api.IWord)
	checkRight(t, ".org 1"+strings.Repeat("+1", n), api.IOrg)
	checkRight(t, "{"+strings.Repeat(";\n", n)+"nop"+strings.Repeat("\n;", n)+"}", api.IPacket)
	checkRight(t, "{"+strings.Repeat("nop\n", n)+"}:raw", api.IPacket)
	checkRight(t, strings.Repeat("\n", n))
	checkWrong(t, "{"+strings.Repeat("nop\n", n), form(n+1, 1))
	checkWrong(t, strings.Repeat("nop ", n), form(1, 5))
	checkWrong(t, strings.Repeat("foo\n", n), rows(1, 100, 4)...)
	// Each second { is wrong in the packet that the one before it begins.
	var each []api.Diag
	for i := range api.MaxDiags {
		each = append(each, form(2*i+2, 1))
	}
	checkWrong(t, strings.Repeat("{\n", n), each...)
}
