package inst_test

import (
	"math"
	"slices"
	"strings"
	"testing"

	"coxless/api"
	"coxless/inst"
)

// line is an instruction as the document's table writes it, with the value's bits and scale told apart.
type line struct {
	op     uint8
	class  string
	fields string
	n      int
	scale  int
}

var table = []line{
	{api.Nop, "A", "", 0, 0},
	{api.Add, "A", "Mode Pred D S T", 0, 0},
	{api.Sub, "A", "Mode Pred D S T", 0, 0},
	{api.And, "A", "Mode Pred D S T", 0, 0},
	{api.Or, "A", "Mode Pred D S T", 0, 0},
	{api.Xor, "A", "Mode Pred D S T", 0, 0},
	{api.AddI, "A", "D S Imm Ext", 14, 0},
	{api.MovI, "A", "Mode Pred D Imm Ext", 14, 0},
	{api.Mov, "A", "Mode Pred D S", 0, 0},
	{api.CmpEq, "A", "DP S T", 0, 0},
	{api.CmpGt, "A", "DP S T", 0, 0},
	{api.CmpGtu, "A", "DP S T", 0, 0},
	{api.CmpEqI, "A", "DP S Imm Ext", 14, 0},
	{api.Mux, "A", "D Pred S T", 0, 0},
	{api.Asl, "X", "D S U5", 0, 0},
	{api.Lsr, "X", "D S U5", 0, 0},
	{api.Asr, "X", "D S U5", 0, 0},
	{api.Mpy, "X", "D S T", 0, 0},
	{api.Cmpy, "X", "D S T", 0, 0},
	{api.CmpyC, "X", "D S T", 0, 0},
	{api.LdW, "L", "D S Imm Ext", 12, 2},
	{api.LdH, "L", "D S Imm Ext", 12, 1},
	{api.LdB, "L", "D S Imm Ext", 12, 0},
	{api.StW, "S", "S New T Imm Ext", 12, 2},
	{api.StH, "S", "S New T Imm Ext", 12, 1},
	{api.StB, "S", "S New T Imm Ext", 12, 0},
	{api.Jump, "J", "Mode Pred Rel Ext", 0, 0},
	{api.JumpR, "J", "Mode Pred S", 0, 0},
	{api.Call, "J", "Rel Ext", 0, 0},
	{api.LoopI, "C", "N Rel Ext Count", 0, 0},
	{api.LoopR, "C", "N Rel Ext S", 0, 0},
}

func (l line) has(field string) bool {
	return slices.Contains(strings.Fields(l.fields), field)
}

func lineOf(op uint8) (line, bool) {
	if op < 1 || int(op) > len(table) {
		return line{}, false
	}
	return table[op-1], true
}

// most is the greatest value of a field that counts from 0, or 0 if the op has no such field.
func (l line) most(field string, value int) int {
	if l.has(field) {
		return value
	}
	return 0
}

func (l line) valueIsRight(in api.Inst) bool {
	v := in.Imm
	switch {
	case l.has("Rel"):
		return v >= 0 && v <= 4294967292 && v%4 == 0
	case l.has("U5"):
		return v >= 0 && v <= 31
	case !l.has("Imm"):
		return v == 0
	case in.Ext:
		return v >= -2147483648 && v <= 2147483647
	}
	unit, half := int64(1)<<l.scale, int64(1)<<(l.n-1)
	return v%unit == 0 && v >= -half*unit && v < half*unit
}

func wantRight(in api.Inst) bool {
	l, ok := lineOf(in.Op)
	if !ok {
		return false
	}
	mostD := l.most("D", 31) + l.most("DP", 3)
	switch {
	case int(in.D) > mostD, int(in.S) > l.most("S", 31), int(in.T) > l.most("T", 31):
		return false
	case int(in.N) > l.most("N", 1), int(in.Pred) > l.most("Pred", 3), int(in.Mode) > l.most("Mode", 4):
		return false
	case l.has("Mode") && in.Mode == 0 && in.Pred != 0:
		return false
	case int(in.Count) > l.most("Count", 2047), in.New && !l.has("New"), in.Ext && !l.has("Ext"):
		return false
	}
	return l.valueIsRight(in)
}

// does is what the functions of P4.2 tell of an instruction.
type does struct {
	reg, pred, asked uint8
	writes, sets     bool
	fresh, asks      bool
	target           uint32
	leads            bool
	reads            [2]uint8
	read             int
}

func toldOf(in api.Inst) does {
	var d does
	d.reg, d.writes = inst.Writes(in)
	d.pred, d.sets = inst.WritesPred(in)
	d.asked, d.fresh, d.asks = inst.ReadsPred(in)
	d.target, d.leads = inst.Target(in)
	reads := inst.Reads(in)
	d.read = len(reads)
	copy(d.reads[:], reads)
	return d
}

func (d *does) addRead(reg uint8) {
	if d.read == 1 && d.reads[0] == reg {
		return
	}
	d.reads[d.read] = reg
	d.read++
	if d.read == 2 && d.reads[0] > d.reads[1] {
		d.reads[0], d.reads[1] = d.reads[1], d.reads[0]
	}
}

func wantOf(in api.Inst) does {
	var d does
	l, ok := lineOf(in.Op)
	if !ok || !wantRight(in) {
		return d
	}
	if l.has("D") {
		d.reg, d.writes = in.D, true
	}
	if in.Op == api.Call {
		d.reg, d.writes = 31, true
	}
	if l.has("DP") {
		d.pred, d.sets = in.D, true
	}
	if in.Op == api.Mux || in.Mode != 0 {
		d.asked, d.asks = in.Pred, true
		d.fresh = in.Mode == 3 || in.Mode == 4
	}
	if l.has("Rel") {
		d.target, d.leads = uint32(in.Imm), true
	}
	if l.has("S") {
		d.addRead(in.S)
	}
	if l.has("T") && !in.New {
		d.addRead(in.T)
	}
	return d
}

func check(t *testing.T, in api.Inst) {
	t.Helper()
	if got := inst.Right(in); got != wantRight(in) {
		t.Errorf("Right(%+v): %t", in, got)
	}
	if got, want := toldOf(in), wantOf(in); got != want {
		t.Errorf("%+v: %+v, not %+v", in, got, want)
	}
}

var registers = []uint8{0, 1, 2, 3, 4, 7, 15, 16, 30, 31, 32, 33, 63, 64, 128, 255}
var smalls = []uint8{0, 1, 2, 3, 4, 5, 6, 7, 8, 128, 255}
var counts = []uint16{0, 1, 2, 1023, 1024, 2046, 2047, 2048, 2049, 4096, 32768, 65535}

// imms are the borders of each field, scaled and not, those of 32 bits, and all about them.
func imms() []int64 {
	values := []int64{math.MinInt64, math.MinInt64 + 4, math.MaxInt64, math.MaxInt64 - 3}
	for _, shift := range []uint{0, 5, 11, 12, 13, 24, 31, 32, 40} {
		for _, about := range []int64{-4, -2, -1, 0, 1, 2, 4} {
			values = append(values, int64(1)<<shift+about, -int64(1)<<shift+about)
		}
	}
	slices.Sort(values)
	return slices.Compact(values)
}

// A change sets one of an instruction's members to its k-th value of interest.
type change struct {
	name  string
	count int
	set   func(in *api.Inst, k int)
}

func changes() []change {
	values := imms()
	return []change{
		{"D", len(registers), func(in *api.Inst, k int) { in.D = registers[k] }},
		{"S", len(registers), func(in *api.Inst, k int) { in.S = registers[k] }},
		{"T", len(registers), func(in *api.Inst, k int) { in.T = registers[k] }},
		{"N", len(smalls), func(in *api.Inst, k int) { in.N = smalls[k] }},
		{"Pred", len(smalls), func(in *api.Inst, k int) { in.Pred = smalls[k] }},
		{"Mode", len(smalls), func(in *api.Inst, k int) { in.Mode = smalls[k] }},
		{"New", 2, func(in *api.Inst, k int) { in.New = k == 1 }},
		{"Ext", 2, func(in *api.Inst, k int) { in.Ext = k == 1 }},
		{"Count", len(counts), func(in *api.Inst, k int) { in.Count = counts[k] }},
		{"Imm", len(values), func(in *api.Inst, k int) { in.Imm = values[k] }},
	}
}

// plainOf is a valid instruction of the line, with nothing in it that is zero of necessity.
func plainOf(l line) api.Inst {
	in := api.Inst{Op: l.op}
	if l.has("D") {
		in.D = 9
	}
	if l.has("DP") {
		in.D = 2
	}
	if l.has("S") {
		in.S = 20
	}
	if l.has("T") {
		in.T = 10
	}
	if l.has("N") {
		in.N = 1
	}
	if l.has("Pred") {
		in.Pred = 1
	}
	if l.has("Mode") {
		in.Mode = api.IfNot
	}
	if l.has("Count") {
		in.Count = 100
	}
	if l.has("Imm") || l.has("U5") || l.has("Rel") {
		in.Imm = 16
	}
	return in
}

// eachTwoChanges gives each op's zero and plain instruction with any two members changed.
func eachTwoChanges(do func(in api.Inst)) {
	all := changes()
	for _, l := range table {
		for _, start := range []api.Inst{{Op: l.op}, plainOf(l)} {
			for i, a := range all {
				for _, b := range all[:i] {
					eachPair(start, a, b, do)
				}
			}
		}
	}
}

func eachPair(start api.Inst, a, b change, do func(in api.Inst)) {
	for ka := range a.count {
		for kb := range b.count {
			in := start
			a.set(&in, ka)
			b.set(&in, kb)
			do(in)
		}
	}
}

// The examples of the chapter

func TestExamples(t *testing.T) {
	add := api.Inst{Op: api.Add, D: 1, S: 3, T: 2, Mode: 3, Pred: 1}
	if got := toldOf(add); !inst.Right(add) || got != (does{reg: 1, writes: true, reads: [2]uint8{2, 3}, read: 2, asked: 1, fresh: true, asks: true}) {
		t.Errorf("add: %+v", got)
	}
	compare := api.Inst{Op: api.CmpEqI, D: 2, S: 4, Imm: -8192}
	if got := toldOf(compare); !inst.Right(compare) || got != (does{pred: 2, sets: true, reads: [2]uint8{4}, read: 1}) {
		t.Errorf("cmpeqi: %+v", got)
	}
	compare.Imm = 8192
	if inst.Right(compare) || toldOf(compare) != (does{}) {
		t.Errorf("cmpeqi of 8192 is valid")
	}
	compare.Ext = true
	if got := toldOf(compare); !inst.Right(compare) || got.pred != 2 || !got.sets {
		t.Errorf("cmpeqi of 8192 with Ext: %+v", got)
	}
	store := api.Inst{Op: api.StW, S: 5, T: 5, New: true, Imm: 4}
	if got := toldOf(store); !inst.Right(store) || got != (does{reads: [2]uint8{5}, read: 1}) {
		t.Errorf("stw: %+v", got)
	}
	store.Imm = 6
	if inst.Right(store) || toldOf(store) != (does{}) {
		t.Errorf("stw at 6 is valid")
	}
	call := api.Inst{Op: api.Call, Imm: 1<<32 - 4}
	if got := toldOf(call); !inst.Right(call) || got != (does{reg: 31, writes: true, target: 1<<32 - 4, leads: true}) {
		t.Errorf("call: %+v", got)
	}
	if in := (api.Inst{Op: api.MovI, Pred: 1}); inst.Right(in) || toldOf(in) != (does{}) {
		t.Errorf("movi with Pred and no Mode is valid")
	}
}

// P4.1

func TestRightOfTwoChanges(t *testing.T) {
	right, wrong := 0, 0
	eachTwoChanges(func(in api.Inst) {
		want := wantRight(in)
		if got := inst.Right(in); got != want {
			t.Errorf("Right(%+v): %t", in, got)
		}
		if want {
			right++
		} else {
			wrong++
		}
	})
	if right < 1000 || wrong < 1000 {
		t.Errorf("too few are tried: %d valid, %d not", right, wrong)
	}
}

func TestRightOfEachOp(t *testing.T) {
	for op := range 256 {
		in := api.Inst{Op: uint8(op)}
		if got := inst.Right(in); got != (op >= 1 && op <= 31) {
			t.Errorf("Right of the op %d: %t", op, got)
		}
	}
	for _, l := range table {
		if in := plainOf(l); !inst.Right(in) {
			t.Errorf("not valid: %+v", in)
		}
	}
}

func TestRightAtTheBordersOfValues(t *testing.T) {
	for _, x := range []struct {
		op          uint8
		least, most int64
		step        int64
	}{
		{api.AddI, -8192, 8191, 1}, {api.MovI, -8192, 8191, 1}, {api.CmpEqI, -8192, 8191, 1},
		{api.Asl, 0, 31, 1}, {api.Lsr, 0, 31, 1}, {api.Asr, 0, 31, 1},
		{api.LdW, -8192, 8188, 4}, {api.LdH, -4096, 4094, 2}, {api.LdB, -2048, 2047, 1},
		{api.StW, -8192, 8188, 4}, {api.StH, -4096, 4094, 2}, {api.StB, -2048, 2047, 1},
		{api.Jump, 0, 4294967292, 4}, {api.Call, 0, 4294967292, 4},
		{api.LoopI, 0, 4294967292, 4}, {api.LoopR, 0, 4294967292, 4},
	} {
		for _, v := range []int64{x.least, x.least + x.step, x.most - x.step, x.most} {
			if !inst.Right(api.Inst{Op: x.op, Imm: v}) {
				t.Errorf("the op %d does not take %d", x.op, v)
			}
			for off := int64(1); off < x.step; off++ {
				if inst.Right(api.Inst{Op: x.op, Imm: v + off}) {
					t.Errorf("the op %d takes %d", x.op, v+off)
				}
			}
		}
		for _, v := range []int64{x.least - x.step, x.least - 1, x.most + 1, x.most + x.step} {
			if inst.Right(api.Inst{Op: x.op, Imm: v}) {
				t.Errorf("the op %d takes %d", x.op, v)
			}
		}
	}
}

func TestRightWithExt(t *testing.T) {
	for _, l := range table {
		for _, v := range []int64{-2147483649, -2147483648, -2147483647, -8193, -1, 0, 1, 2, 3, 8192, 2147483646, 2147483647, 2147483648, 4294967292} {
			in := plainOf(l)
			in.Ext, in.Imm = true, v
			want := l.has("Imm") && v >= -2147483648 && v <= 2147483647 || l.has("Rel") && v >= 0 && v%4 == 0
			if got := inst.Right(in); got != want {
				t.Errorf("Right(%+v): %t", in, got)
			}
		}
	}
}

func TestRightOfModesAndPredicates(t *testing.T) {
	for _, l := range table {
		for mode := range 256 {
			for _, pred := range smalls {
				in := plainOf(l)
				in.Mode, in.Pred = uint8(mode), pred
				var want bool
				switch {
				case l.has("Mode"):
					want = mode == 0 && pred == 0 || mode >= 1 && mode <= 4 && pred <= 3
				case l.op == api.Mux:
					want = mode == 0 && pred <= 3
				default:
					want = mode == 0 && pred == 0
				}
				if got := inst.Right(in); got != want {
					t.Errorf("Right(%+v): %t", in, got)
				}
			}
		}
	}
}

func TestRightOfEachByte(t *testing.T) {
	sets := []struct {
		fields string
		most   [2]int
		set    func(in *api.Inst, v uint8)
	}{
		{"D DP", [2]int{31, 3}, func(in *api.Inst, v uint8) { in.D = v }},
		{"S -", [2]int{31, 0}, func(in *api.Inst, v uint8) { in.S = v }},
		{"T -", [2]int{31, 0}, func(in *api.Inst, v uint8) { in.T = v }},
		{"N -", [2]int{1, 0}, func(in *api.Inst, v uint8) { in.N = v }},
	}
	for _, l := range table {
		for _, s := range sets {
			most := 0
			for i, field := range strings.Fields(s.fields) {
				if l.has(field) {
					most = s.most[i]
				}
			}
			for v := range 256 {
				in := plainOf(l)
				s.set(&in, uint8(v))
				if got := inst.Right(in); got != (v <= most) {
					t.Errorf("Right(%+v): %t", in, got)
				}
			}
		}
	}
}

func TestRightOfCounts(t *testing.T) {
	for _, l := range table {
		for _, v := range counts {
			in := plainOf(l)
			in.Count = v
			want := v == 0 || l.op == api.LoopI && v <= 2047
			if got := inst.Right(in); got != want {
				t.Errorf("Right(%+v): %t", in, got)
			}
		}
	}
}

func TestClassAndCond(t *testing.T) {
	for op := range 256 {
		l, _ := lineOf(uint8(op))
		wantClass := uint8(max(0, strings.Index("-AXLSJC", l.class)))
		wantCond := l.has("Mode")
		// An op's class and mode are asked of instructions that are not valid, too.
		for _, in := range []api.Inst{{Op: uint8(op)}, {Op: uint8(op), D: 255, S: 255, T: 255, N: 255, Pred: 255, Mode: 255, New: true, Ext: true, Count: 65535, Imm: -1 << 63}} {
			if got := inst.Class(in); got != wantClass {
				t.Errorf("Class of the op %d: %d, not %d", op, got, wantClass)
			}
			if got := inst.Cond(in); got != wantCond {
				t.Errorf("Cond of the op %d: %t", op, got)
			}
		}
	}
}

// P4.2

func TestWhatTwoChangesDo(t *testing.T) {
	eachTwoChanges(func(in api.Inst) {
		if got, want := toldOf(in), wantOf(in); got != want {
			t.Errorf("%+v: %+v, not %+v", in, got, want)
		}
	})
}

func TestOpsThatThereAreNot(t *testing.T) {
	all := changes()
	for _, op := range []uint8{0, 32, 33, 62, 63, 64, 127, 128, 192, 255} {
		for i, a := range all {
			for _, b := range all[:i] {
				eachPair(api.Inst{Op: op}, a, b, func(in api.Inst) {
					if inst.Right(in) || toldOf(in) != (does{}) {
						t.Errorf("%+v: %+v", in, toldOf(in))
					}
				})
			}
		}
	}
}

func TestDestinations(t *testing.T) {
	for _, l := range table {
		for d := range 32 {
			in := plainOf(l)
			in.D = uint8(d)
			check(t, in)
		}
	}
	for d := range uint8(4) {
		for _, op := range []uint8{api.CmpEq, api.CmpGt, api.CmpGtu, api.CmpEqI} {
			in := api.Inst{Op: op, D: d}
			if reg, ok := inst.Writes(in); ok || reg != 0 {
				t.Errorf("Writes(%+v): %d, %t", in, reg, ok)
			}
			if pred, ok := inst.WritesPred(in); !ok || pred != d {
				t.Errorf("WritesPred(%+v): %d, %t", in, pred, ok)
			}
		}
	}
}

func TestReadsEachPairOfRegisters(t *testing.T) {
	for _, l := range table {
		for s := range 33 {
			for r := range 33 {
				in := plainOf(l)
				in.S, in.T = uint8(s), uint8(r)
				check(t, in)
				in.New = true
				check(t, in)
			}
		}
	}
}

func TestReadsInOrderAndOnce(t *testing.T) {
	for _, x := range []struct {
		in   api.Inst
		want []uint8
	}{
		{api.Inst{Op: api.Sub, S: 7, T: 6}, []uint8{6, 7}},
		{api.Inst{Op: api.Sub, S: 6, T: 7}, []uint8{6, 7}},
		{api.Inst{Op: api.Sub, S: 31, T: 0}, []uint8{0, 31}},
		{api.Inst{Op: api.Sub, S: 7, T: 7}, []uint8{7}},
		{api.Inst{Op: api.Sub}, []uint8{0}},
		{api.Inst{Op: api.Mux, D: 1, S: 3, T: 2}, []uint8{2, 3}},
		{api.Inst{Op: api.Mov, D: 1, S: 3}, []uint8{3}},
		{api.Inst{Op: api.StB, S: 7, T: 6}, []uint8{6, 7}},
		{api.Inst{Op: api.StB, S: 7, T: 7}, []uint8{7}},
		{api.Inst{Op: api.StB, S: 7, T: 6, New: true}, []uint8{7}},
		{api.Inst{Op: api.StB, S: 7, T: 7, New: true}, []uint8{7}},
		{api.Inst{Op: api.LdB, D: 7, S: 7}, []uint8{7}},
		{api.Inst{Op: api.LoopR, S: 7}, []uint8{7}},
		{api.Inst{Op: api.JumpR, S: 31}, []uint8{31}},
		{api.Inst{Op: api.MovI, D: 7}, nil},
		{api.Inst{Op: api.Call}, nil},
		{api.Inst{Op: api.LoopI}, nil},
		{api.Inst{Op: api.Jump, Mode: 1}, nil},
		{api.Inst{Op: api.Nop}, nil},
	} {
		if got := inst.Reads(x.in); !slices.Equal(got, x.want) {
			t.Errorf("Reads(%+v): %v, not %v", x.in, got, x.want)
		}
	}
}

func TestReadsPredOfEachMode(t *testing.T) {
	for _, l := range table {
		if !l.has("Mode") {
			continue
		}
		for pred := range uint8(4) {
			for mode := uint8(api.If); mode <= api.NotNew; mode++ {
				in := plainOf(l)
				in.Mode, in.Pred = mode, pred
				got, fresh, ok := inst.ReadsPred(in)
				if got != pred || fresh != (mode == api.IfNew || mode == api.NotNew) || !ok {
					t.Errorf("ReadsPred(%+v): %d, %t, %t", in, got, fresh, ok)
				}
			}
		}
		in := plainOf(l)
		in.Mode, in.Pred = api.Always, 0
		if got, fresh, ok := inst.ReadsPred(in); got != 0 || fresh || ok {
			t.Errorf("ReadsPred(%+v): %d, %t, %t", in, got, fresh, ok)
		}
	}
	for pred := range uint8(4) {
		if got, fresh, ok := inst.ReadsPred(api.Inst{Op: api.Mux, Pred: pred}); got != pred || fresh || !ok {
			t.Errorf("ReadsPred of mux on %d: %d, %t, %t", pred, got, fresh, ok)
		}
	}
}

func TestTargets(t *testing.T) {
	for _, l := range table {
		for _, to := range []int64{0, 4, 8, 2147483644, 2147483648, 4294967288, 4294967292} {
			for _, ext := range []bool{false, true} {
				in := api.Inst{Op: l.op, Imm: to, Ext: ext && l.has("Ext")}
				got, ok := inst.Target(in)
				if ok != l.has("Rel") || ok && int64(got) != to || !ok && got != 0 {
					t.Errorf("Target(%+v): %d, %t", in, got, ok)
				}
			}
		}
		for _, to := range []int64{-4, -1, 1, 2, 3, 5, 6, 4294967290, 4294967293, 4294967295, 4294967296, 4294967300, 1 << 34, math.MinInt64, math.MaxInt64, math.MaxInt64 - 3} {
			for _, ext := range []bool{false, true} {
				if got, ok := inst.Target(api.Inst{Op: l.op, Imm: to, Ext: ext}); ok || got != 0 {
					t.Errorf("Target of %d by the op %d: %d, %t", to, l.op, got, ok)
				}
			}
		}
	}
}

// P4.3

func TestNoneWritesBoth(t *testing.T) {
	eachTwoChanges(func(in api.Inst) {
		_, writes := inst.Writes(in)
		_, sets := inst.WritesPred(in)
		if writes && sets {
			t.Errorf("%+v writes a register and a predicate", in)
		}
	})
}

func TestValuesAreRepresentable(t *testing.T) {
	shorts := map[uint8]int64{api.Asl: 5, api.Lsr: 5, api.Asr: 5}
	eachTwoChanges(func(in api.Inst) {
		_, leads := inst.Target(in)
		if !inst.Right(in) || in.Ext || leads {
			return
		}
		l, _ := lineOf(in.Op)
		if n := shorts[in.Op]; n != 0 {
			if back := in.Imm & (1<<n - 1); back != in.Imm {
				t.Errorf("%+v: its value comes back as %d", in, back)
			}
			return
		}
		// Of the quotient the field's bits are kept, and their sign is extended.
		lost := 64 - l.n
		if back := (in.Imm >> l.scale) << lost >> lost << l.scale; back != in.Imm {
			t.Errorf("%+v: its value comes back as %d", in, back)
		}
	})
}

func TestWhatHasNoFieldMayNotBeChanged(t *testing.T) {
	fields := map[string]string{"D": "D DP", "S": "S", "T": "T", "N": "N", "Pred": "Pred", "Mode": "Mode", "New": "New", "Ext": "Ext", "Count": "Count", "Imm": "Imm U5 Rel"}
	all := changes()
	for _, l := range table {
		for _, start := range []api.Inst{{Op: l.op}, plainOf(l)} {
			for _, c := range all {
				if slices.ContainsFunc(strings.Fields(fields[c.name]), l.has) {
					continue
				}
				for k := range c.count {
					in := start
					c.set(&in, k)
					if in != start && (inst.Right(in) || toldOf(in) != (does{})) {
						t.Errorf("%+v is valid after a change of %s", in, c.name)
					}
				}
			}
		}
	}
}

// R4: what Reads returns is new memory.
func TestReadsIsNewMemory(t *testing.T) {
	for _, l := range table {
		in := plainOf(l)
		first, second := inst.Reads(in), inst.Reads(in)
		want := slices.Clone(second)
		withSpare := first[:cap(first)]
		for i := range withSpare {
			withSpare[i] = 99
		}
		if third := inst.Reads(in); !slices.Equal(second, want) || !slices.Equal(third, want) {
			t.Errorf("Reads(%+v) after a change of a result: %v, %v", in, second, third)
		}
	}
}

// R3: results do not depend on what was called before.
func TestResultsAreTheSameEachTime(t *testing.T) {
	for range 3 {
		TestExamples(t)
		for _, l := range table {
			check(t, plainOf(l))
		}
		toldOf(api.Inst{Op: 200, D: 255})
	}
}
