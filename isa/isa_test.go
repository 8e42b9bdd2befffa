package isa_test

import (
	"slices"
	"strconv"
	"strings"
	"testing"

	"coxless/api"
	"coxless/isa"
)

// line is an instruction as the document's table writes it.
type line struct {
	op     int
	name   string
	class  string
	fields string
}

var table = []line{
	{1, "nop", "A", ""},
	{2, "add", "A", "cond D S T"},
	{3, "sub", "A", "cond D S T"},
	{4, "and", "A", "cond D S T"},
	{5, "or", "A", "cond D S T"},
	{6, "xor", "A", "cond D S T"},
	{7, "addi", "A", "D S imm14x"},
	{8, "movi", "A", "cond D imm14x"},
	{9, "mov", "A", "cond D S"},
	{10, "cmpeq", "A", "DP S T"},
	{11, "cmpgt", "A", "DP S T"},
	{12, "cmpgtu", "A", "DP S T"},
	{13, "cmpeqi", "A", "DP S imm14x"},
	{14, "mux", "A", "D Pred S T"},
	{15, "asl", "X", "D S u5"},
	{16, "lsr", "X", "D S u5"},
	{17, "asr", "X", "D S u5"},
	{18, "mpy", "X", "D S T"},
	{19, "cmpy", "X", "D S T"},
	{20, "cmpyc", "X", "D S T"},
	{21, "ldw", "L", "D S imm12:2x"},
	{22, "ldh", "L", "D S imm12:1x"},
	{23, "ldb", "L", "D S imm12x"},
	{24, "stw", "S", "S New T imm12:2x"},
	{25, "sth", "S", "S New T imm12:1x"},
	{26, "stb", "S", "S New T imm12x"},
	{27, "jump", "J", "cond rel19:2x"},
	{28, "jumpr", "J", "cond S"},
	{29, "call", "J", "rel24:2x"},
	{30, "loopi", "C", "N rel12:2x Count11"},
	{31, "loopr", "C", "N rel12:2x S"},
}

// written are the fields by the words of the table above.
var written = map[string]isa.Field{
	"Mode":     {1, 3, 0, false, false},
	"Pred":     {2, 2, 0, false, false},
	"D":        {3, 5, 0, false, false},
	"DP":       {4, 2, 0, false, false},
	"S":        {5, 5, 0, false, false},
	"T":        {6, 5, 0, false, false},
	"N":        {7, 1, 0, false, false},
	"New":      {8, 1, 0, false, false},
	"u5":       {9, 5, 0, false, false},
	"imm12x":   {9, 12, 0, true, true},
	"imm12:1x": {9, 12, 1, true, true},
	"imm12:2x": {9, 12, 2, true, true},
	"imm14x":   {9, 14, 0, true, true},
	"rel12:2x": {10, 12, 2, true, true},
	"rel19:2x": {10, 19, 2, true, true},
	"rel24:2x": {10, 24, 2, true, true},
	"Count11":  {11, 11, 0, false, false},
}

func (l line) wantFields(t *testing.T) []isa.Field {
	t.Helper()
	var fields []isa.Field
	for _, word := range strings.Fields(strings.Replace(l.fields, "cond", "Mode Pred", 1)) {
		f, ok := written[word]
		if !ok {
			t.Fatalf("%s: the test knows no field %s", l.name, word)
		}
		fields = append(fields, f)
	}
	return fields
}

func (l line) wantRow(t *testing.T) isa.Row {
	t.Helper()
	class := strings.Index(" AXLSJC", l.class)
	slots := map[string]uint8{"A": 15, "X": 12, "J": 12, "L": 3, "S": 1, "C": 8}
	return isa.Row{Op: uint8(l.op), Name: l.name, Class: uint8(class), Slots: slots[l.class], Fields: l.wantFields(t)}
}

func sameRow(a, b isa.Row) bool {
	return a.Op == b.Op && a.Name == b.Name && a.Class == b.Class && a.Slots == b.Slots && slices.Equal(a.Fields, b.Fields)
}

func isZeroRow(r isa.Row) bool {
	return r.Op == 0 && r.Name == "" && r.Class == 0 && r.Slots == 0 && len(r.Fields) == 0
}

func eachByte(do func(v uint8)) {
	for v := range 256 {
		do(uint8(v))
	}
}

// The constants

func TestConstants(t *testing.T) {
	classes := []int{isa.ClassA, isa.ClassX, isa.ClassL, isa.ClassS, isa.ClassJ, isa.ClassC}
	if !slices.Equal(classes, []int{1, 2, 3, 4, 5, 6}) {
		t.Errorf("the classes: %v", classes)
	}
	kinds := []int{isa.KMode, isa.KPred, isa.KD, isa.KDP, isa.KS, isa.KT, isa.KN, isa.KNew, isa.KImm, isa.KRel, isa.KCount}
	if !slices.Equal(kinds, []int{1, 2, 3, 4, 5, 6, 7, 8, 9, 10, 11}) {
		t.Errorf("the kinds: %v", kinds)
	}
}

// P3.1

func TestOfExamples(t *testing.T) {
	r, ok := isa.Of(1)
	if !ok || r.Op != api.Nop || r.Name != "nop" || r.Class != isa.ClassA || r.Slots != 15 || len(r.Fields) != 0 {
		t.Errorf("Of(1): %v, %t", r, ok)
	}
	if r, ok := isa.Of(0); ok || !isZeroRow(r) {
		t.Errorf("Of(0): %v, %t", r, ok)
	}
}

func TestOfEachRow(t *testing.T) {
	for _, l := range table {
		want := l.wantRow(t)
		if r, ok := isa.Of(want.Op); !ok || !sameRow(r, want) {
			t.Errorf("Of(%d): %v, %t, not %v", want.Op, r, ok, want)
		}
	}
}

func TestOfTheOpsOfApi(t *testing.T) {
	for _, x := range []struct {
		op   uint8
		name string
	}{
		{api.Nop, "nop"}, {api.Add, "add"}, {api.Sub, "sub"}, {api.And, "and"}, {api.Or, "or"}, {api.Xor, "xor"},
		{api.AddI, "addi"}, {api.MovI, "movi"}, {api.Mov, "mov"}, {api.CmpEq, "cmpeq"}, {api.CmpGt, "cmpgt"},
		{api.CmpGtu, "cmpgtu"}, {api.CmpEqI, "cmpeqi"}, {api.Mux, "mux"}, {api.Asl, "asl"}, {api.Lsr, "lsr"},
		{api.Asr, "asr"}, {api.Mpy, "mpy"}, {api.Cmpy, "cmpy"}, {api.CmpyC, "cmpyc"}, {api.LdW, "ldw"},
		{api.LdH, "ldh"}, {api.LdB, "ldb"}, {api.StW, "stw"}, {api.StH, "sth"}, {api.StB, "stb"},
		{api.Jump, "jump"}, {api.JumpR, "jumpr"}, {api.Call, "call"}, {api.LoopI, "loopi"}, {api.LoopR, "loopr"},
	} {
		if r, ok := isa.Of(x.op); !ok || r.Name != x.name || r.Op != x.op {
			t.Errorf("Of(%d): %v, %t, not %s", x.op, r, ok, x.name)
		}
	}
}

func TestOfNoOp(t *testing.T) {
	eachByte(func(op uint8) {
		if op >= 1 && op <= 31 {
			return
		}
		if r, ok := isa.Of(op); ok || !isZeroRow(r) {
			t.Errorf("Of(%d): %v, %t", op, r, ok)
		}
	})
}

func TestWhatOfReturnsIsNewlyAllocated(t *testing.T) {
	for _, l := range table {
		want := l.wantRow(t)
		first, _ := isa.Of(want.Op)
		second, _ := isa.Of(want.Op)
		withSpare := first.Fields[:cap(first.Fields)]
		for i := range withSpare {
			withSpare[i] = isa.Field{Kind: 99, Bits: -1}
		}
		if !sameRow(second, want) {
			t.Errorf("Of(%d) after a change of an earlier result: %v", want.Op, second)
		}
		checkLaterCalls(t)
	}
}

func checkLaterCalls(t *testing.T) {
	t.Helper()
	for _, l := range table {
		want := l.wantRow(t)
		if r, ok := isa.Of(want.Op); !ok || !sameRow(r, want) {
			t.Fatalf("Of(%d) after a change of a result: %v", want.Op, r)
		}
		for _, f := range want.Fields {
			if got, _, ok := isa.At(want.Op, f.Kind); !ok || got != f {
				t.Fatalf("At(%d, %d) after a change of a result: %v", want.Op, f.Kind, got)
			}
		}
	}
}

func TestByExamples(t *testing.T) {
	if op, ok := isa.By("cmpgtu"); !ok || op != 12 {
		t.Errorf("By(cmpgtu): %d, %t", op, ok)
	}
	if op, ok := isa.By("none"); ok || op != 0 {
		t.Errorf("By(none): %d, %t", op, ok)
	}
}

func TestByEachName(t *testing.T) {
	for _, l := range table {
		if op, ok := isa.By(l.name); !ok || int(op) != l.op {
			t.Errorf("By(%s): %d, %t, not %d", l.name, op, ok, l.op)
		}
	}
}

// eachNearName gives the names with a letter more or less, in other cases, and with what is about them.
func eachNearName(do func(name string)) {
	for _, l := range table {
		n := l.name
		for i := range n {
			do(n[:i] + n[i+1:])
			do(n[:i] + strings.ToUpper(n[i:i+1]) + n[i+1:])
			do(n[:i] + "\x00" + n[i:])
		}
		for letter := 'a'; letter <= 'z'; letter++ {
			for i := 0; i <= len(n); i++ {
				do(n[:i] + string(letter) + n[i:])
			}
		}
		for _, about := range []string{" ", "\t", "\n", "\x00", ".", "0", strconv.Itoa(l.op)} {
			do(n + about)
			do(about + n)
		}
		do(strings.ToUpper(n))
		do(n + n)
		do(strconv.Itoa(l.op))
	}
}

func TestByNoName(t *testing.T) {
	names := map[string]int{}
	for _, l := range table {
		names[l.name] = l.op
	}
	check := func(name string) {
		want := names[name]
		if op, ok := isa.By(name); int(op) != want || ok != (want != 0) {
			t.Errorf("By(%q): %d, %t, not %d", name, op, ok, want)
		}
	}
	eachNearName(check)
	for _, name := range []string{"", "none", "if", "loop", "ld", "st", "cmp", "\x00", "\xff", "n\u00f6p", "\u017ftw", strings.Repeat("nop", 1<<16)} {
		check(name)
	}
}

func TestSlots(t *testing.T) {
	want := [256]uint8{isa.ClassA: 15, isa.ClassX: 12, isa.ClassL: 3, isa.ClassS: 1, isa.ClassJ: 12, isa.ClassC: 8}
	eachByte(func(class uint8) {
		if got := isa.Slots(class); got != want[class] {
			t.Errorf("Slots(%d): %d, not %d", class, got, want[class])
		}
	})
}

// P3.2

func TestAtExamples(t *testing.T) {
	for _, x := range []struct {
		op, kind uint8
		want     isa.Field
		at       int
		ok       bool
	}{
		{api.Add, isa.KMode, isa.Field{Kind: isa.KMode, Bits: 3}, 21, true},
		{api.Add, isa.KPred, isa.Field{Kind: isa.KPred, Bits: 2}, 19, true},
		{api.Add, isa.KT, isa.Field{Kind: isa.KT, Bits: 5}, 4, true},
		{api.AddI, isa.KImm, isa.Field{Kind: isa.KImm, Bits: 14, Signed: true, Ext: true}, 0, true},
		{api.LdW, isa.KImm, isa.Field{Kind: isa.KImm, Bits: 12, Shift: 2, Signed: true, Ext: true}, 2, true},
		{api.LdH, isa.KImm, isa.Field{Kind: isa.KImm, Bits: 12, Shift: 1, Signed: true, Ext: true}, 2, true},
		{api.LdB, isa.KImm, isa.Field{Kind: isa.KImm, Bits: 12, Signed: true, Ext: true}, 2, true},
		{api.StW, isa.KNew, isa.Field{Kind: isa.KNew, Bits: 1}, 18, true},
		{api.StW, isa.KImm, isa.Field{Kind: isa.KImm, Bits: 12, Shift: 2, Signed: true, Ext: true}, 1, true},
		{api.LoopI, isa.KN, isa.Field{Kind: isa.KN, Bits: 1}, 23, true},
		{api.LoopI, isa.KCount, isa.Field{Kind: isa.KCount, Bits: 11}, 0, true},
		{api.LoopR, isa.KRel, isa.Field{Kind: isa.KRel, Bits: 12, Shift: 2, Signed: true, Ext: true}, 11, true},
		{api.LoopR, isa.KS, isa.Field{Kind: isa.KS, Bits: 5}, 6, true},
		{api.Mux, isa.KPred, isa.Field{Kind: isa.KPred, Bits: 2}, 17, true},
		{api.Mux, isa.KMode, isa.Field{}, 0, false},
		{api.CmpEq, isa.KDP, isa.Field{Kind: isa.KDP, Bits: 2}, 22, true},
		{api.CmpEq, isa.KD, isa.Field{}, 0, false},
		{api.Add, isa.KDP, isa.Field{}, 0, false},
		{api.Asl, isa.KImm, isa.Field{Kind: isa.KImm, Bits: 5}, 9, true},
		{api.Call, isa.KRel, isa.Field{Kind: isa.KRel, Bits: 24, Shift: 2, Signed: true, Ext: true}, 0, true},
		{api.Call, isa.KMode, isa.Field{}, 0, false},
		{api.Nop, isa.KD, isa.Field{}, 0, false},
	} {
		if f, at, ok := isa.At(x.op, x.kind); ok != x.ok || at != x.at || f != x.want {
			t.Errorf("At(%d, %d): %v, %d, %t, not %v, %d, %t", x.op, x.kind, f, at, ok, x.want, x.at, x.ok)
		}
	}
}

func TestAtEachKindOfEachOp(t *testing.T) {
	for _, l := range table {
		type place struct {
			f  isa.Field
			at int
		}
		want := map[uint8]place{}
		at := 24
		for _, f := range l.wantFields(t) {
			at -= f.Bits
			want[f.Kind] = place{f, at}
		}
		eachByte(func(kind uint8) {
			p, has := want[kind]
			if f, at, ok := isa.At(uint8(l.op), kind); ok != has || at != p.at || f != p.f {
				t.Errorf("At(%d, %d) of %s: %v, %d, %t, not %v", l.op, kind, l.name, f, at, ok, p)
			}
		})
	}
}

func TestAtOfNoOp(t *testing.T) {
	eachByte(func(op uint8) {
		if op >= 1 && op <= 31 {
			return
		}
		eachByte(func(kind uint8) {
			if f, at, ok := isa.At(op, kind); ok || at != 0 || f != (isa.Field{}) {
				t.Errorf("At(%d, %d): %v, %d, %t", op, kind, f, at, ok)
			}
		})
	})
}

// P3.3

func eachRow(do func(r isa.Row)) {
	eachByte(func(op uint8) {
		if r, ok := isa.Of(op); ok {
			do(r)
		}
	})
}

func TestFieldsFillThePayloadFromTheTop(t *testing.T) {
	eachRow(func(r isa.Row) {
		var owners [24]int
		used := 0
		for _, f := range r.Fields {
			_, at, ok := isa.At(r.Op, f.Kind)
			if !ok || f.Bits < 1 || at < 0 || at+f.Bits > 24 {
				t.Fatalf("%s: %v at %d, %t", r.Name, f, at, ok)
			}
			used += f.Bits
			for k := at; k < at+f.Bits; k++ {
				owners[k]++
			}
		}
		for k, n := range owners {
			if want := k >= 24-used; n > 1 || (n == 1) != want {
				t.Errorf("%s: bit %d belongs to %d fields", r.Name, k, n)
			}
		}
	})
}

func TestFieldsStandFromTheTopDown(t *testing.T) {
	eachRow(func(r isa.Row) {
		above := 24
		for _, f := range r.Fields {
			_, at, _ := isa.At(r.Op, f.Kind)
			if at+f.Bits != above {
				t.Errorf("%s: %v at %d, below %d", r.Name, f, at, above)
			}
			above = at
		}
	})
}

func TestEachKindIsThereOnce(t *testing.T) {
	eachRow(func(r isa.Row) {
		seen := map[uint8]int{}
		for _, f := range r.Fields {
			seen[f.Kind]++
			if f.Kind < 1 || f.Kind > 11 || seen[f.Kind] > 1 {
				t.Errorf("%s: kind %d, %d times", r.Name, f.Kind, seen[f.Kind])
			}
		}
	})
}

func TestFieldsThatMayBeExtended(t *testing.T) {
	eachRow(func(r isa.Row) {
		for _, f := range r.Fields {
			if f.Ext && (f.Bits < 8 || !f.Signed) {
				t.Errorf("%s: %v may be extended", r.Name, f)
			}
		}
	})
}

// R3: results do not depend on what was called before.
func TestResultsAreTheSameEachTime(t *testing.T) {
	for range 3 {
		TestOfEachRow(t)
		TestByEachName(t)
		TestAtEachKindOfEachOp(t)
		isa.Of(200)
		isa.By("none")
		isa.At(200, 200)
	}
}
