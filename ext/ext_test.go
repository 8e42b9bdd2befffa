package ext_test

import (
	"math"
	"slices"
	"testing"

	"coxless/api"
	"coxless/ext"
)

// line is an instruction's value field as the document's table writes it: what it holds, its least and greatest value, and the step between two.
type line struct {
	op          uint8
	holds       string
	extendable  bool
	least, most int64
	step        int64
}

var table = []line{
	{api.AddI, "value", true, -8192, 8191, 1},
	{api.MovI, "value", true, -8192, 8191, 1},
	{api.CmpEqI, "value", true, -8192, 8191, 1},
	{api.Asl, "value", false, 0, 31, 1},
	{api.Lsr, "value", false, 0, 31, 1},
	{api.Asr, "value", false, 0, 31, 1},
	{api.LdW, "value", true, -8192, 8188, 4},
	{api.LdH, "value", true, -4096, 4094, 2},
	{api.LdB, "value", true, -2048, 2047, 1},
	{api.StW, "value", true, -8192, 8188, 4},
	{api.StH, "value", true, -4096, 4094, 2},
	{api.StB, "value", true, -2048, 2047, 1},
	{api.Jump, "target", true, -1048576, 1048572, 4},
	{api.Call, "target", true, -33554432, 33554428, 4},
	{api.LoopI, "target", true, -8192, 8188, 4},
	{api.LoopR, "target", true, -8192, 8188, 4},
}

// without are the ops that have no value field.
var without = []uint8{
	api.Nop, api.Add, api.Sub, api.And, api.Or, api.Xor, api.Mov, api.CmpEq, api.CmpGt, api.CmpGtu,
	api.Mux, api.Mpy, api.Cmpy, api.CmpyC, api.JumpR,
}

// all is 2^32, the number of addresses.
const all = int64(4294967296)

// pcs are addresses at both ends of the 32 bits, in their middle, at the borders of fields, and some that no packet has.
var pcs = []uint32{
	0, 1, 2, 3, 4, 8, 12, 8188, 8192, 0x00100000, 0x12345678, 0x7ffffffc, 0x7fffffff,
	0x80000000, 0x80000004, 0xfedcba98, 0xfff00000, 0xfffffff8, 0xfffffffc, 0xfffffffe, 0xffffffff,
}

// imms are the borders of each field, those of 32 bits and of 64, and what lies about them.
func imms() []int64 {
	values := []int64{math.MinInt64, math.MinInt64 + 1, math.MinInt64 + 4, math.MaxInt64, math.MaxInt64 - 1, math.MaxInt64 - 3, 0x12345678, -0x12345678}
	for _, shift := range []uint{0, 5, 8, 11, 12, 13, 14, 20, 24, 25, 26, 31, 32, 33, 40, 62} {
		for _, about := range []int64{-8, -4, -3, -2, -1, 0, 1, 2, 3, 4, 8} {
			values = append(values, int64(1)<<shift+about, -int64(1)<<shift+about)
		}
	}
	slices.Sort(values)
	return slices.Compact(values)
}

func lineOf(op uint8) (line, bool) {
	for _, l := range table {
		if l.op == op {
			return l, true
		}
	}
	return line{}, false
}

// wrapped is v modulo 2^32, from 0 on.
func wrapped(v int64) int64 {
	v %= all
	if v < 0 {
		v += all
	}
	return v
}

// asSigned is v modulo 2^32, from -2^31 to 2^31 - 1.
func asSigned(v int64) int64 {
	v = wrapped(v)
	if v >= all/2 {
		v -= all
	}
	return v
}

// told is what the functions of P5.1 tell of an instruction.
type told struct {
	value             int64
	has, fits, needed bool
}

func toldOf(in api.Inst, pc uint32) told {
	v, ok := ext.Value(in, pc)
	return told{v, ok, ext.Fits(in, pc), ext.Needs(in, pc)}
}

func wantOf(in api.Inst, pc uint32) told {
	l, ok := lineOf(in.Op)
	if !ok {
		return told{fits: true}
	}
	v := in.Imm
	if l.holds == "target" {
		v = asSigned(wrapped(in.Imm) - int64(pc))
	}
	fits := v >= l.least && v <= l.most && v%l.step == 0
	return told{v, true, fits, l.extendable && !fits}
}

func check(t *testing.T, in api.Inst, pc uint32) {
	t.Helper()
	if got, want := toldOf(in, pc), wantOf(in, pc); got != want {
		t.Errorf("%+v at %#x: %+v, not %+v", in, pc, got, want)
	}
}

// wantFit checks an instruction's fit with what the test says of it, whatever the table says.
func wantFit(t *testing.T, l line, in api.Inst, pc uint32, want bool) {
	t.Helper()
	if got := ext.Fits(in, pc); got != want {
		t.Errorf("Fits(%+v, %#x): %t", in, pc, got)
	}
	if got := ext.Needs(in, pc); got != (l.extendable && !want) {
		t.Errorf("Needs(%+v, %#x): %t", in, pc, got)
	}
}

func eachOp(do func(op uint8)) {
	for op := range 256 {
		do(uint8(op))
	}
}

// eachImm gives each op with each value of interest at each address of interest.
func eachImm(do func(in api.Inst, pc uint32)) {
	values := imms()
	eachOp(func(op uint8) {
		for _, v := range values {
			for _, pc := range pcs {
				do(api.Inst{Op: op, Imm: v}, pc)
			}
		}
	})
}

// The examples of the chapter

func TestExamples(t *testing.T) {
	if v, ok := ext.Value(api.Inst{Op: api.Jump, Imm: 8}, 12); v != -4 || !ok {
		t.Errorf("Value of a jump to 8 at 12: %d, %t", v, ok)
	}
	if to := ext.Target(-4, 12); to != 8 {
		t.Errorf("Target(-4, 12): %d", to)
	}
	if v, ok := ext.Value(api.Inst{Op: api.Jump, Imm: 4294967292}, 0); v != -4 || !ok {
		t.Errorf("Value of a jump to 2^32 - 4 at 0: %d, %t", v, ok)
	}
	for _, x := range []struct {
		in   api.Inst
		want bool
	}{
		{api.Inst{Op: api.MovI, Imm: 8191}, false},
		{api.Inst{Op: api.MovI, Imm: 8192}, true},
		{api.Inst{Op: api.LdW, Imm: 6}, true},
	} {
		if got := ext.Needs(x.in, 0); got != x.want {
			t.Errorf("Needs(%+v, 0): %t", x.in, got)
		}
	}
	if upper, lower := ext.Split(-1); upper != 0xffffff || lower != 0xff {
		t.Errorf("Split(-1): %#x, %#x", upper, lower)
	}
	if v := ext.Join(1, 0xff); v != 0x1ff {
		t.Errorf("Join(1, 0xff): %#x", v)
	}
	if ext.Extendable(api.Asl) {
		t.Errorf("asl is extendable")
	}
}

// P5.1

func TestExtendableOfEachOp(t *testing.T) {
	eachOp(func(op uint8) {
		l, _ := lineOf(op)
		if got := ext.Extendable(op); got != l.extendable {
			t.Errorf("Extendable(%d): %t", op, got)
		}
	})
}

func TestEachOpWithEachValue(t *testing.T) {
	eachImm(func(in api.Inst, pc uint32) { check(t, in, pc) })
}

// The two lists of the test hold each op once, so that none of the others is left out.
func TestEachOpIsListed(t *testing.T) {
	var times [256]int
	for _, l := range table {
		times[l.op]++
	}
	for _, op := range without {
		times[op]++
	}
	for op, n := range times {
		if (op >= api.Nop && op <= api.LoopR) != (n == 1) {
			t.Errorf("the op %d is listed %d times", op, n)
		}
	}
}

func wantNoValue(t *testing.T, in api.Inst, pc uint32) {
	t.Helper()
	if got := toldOf(in, pc); got != (told{fits: true}) {
		t.Errorf("%+v at %#x: %+v", in, pc, got)
	}
	if ext.Extendable(in.Op) {
		t.Errorf("Extendable(%d)", in.Op)
	}
}

func TestInstructionsWithoutAValueField(t *testing.T) {
	values := imms()
	for _, op := range without {
		for _, v := range values {
			wantNoValue(t, api.Inst{Op: op, Imm: v}, 12)
			wantNoValue(t, api.Inst{Op: op, Imm: v, Ext: true}, 0xfffffffc)
		}
	}
}

func TestOpsThatThereAreNot(t *testing.T) {
	values := imms()
	eachOp(func(op uint8) {
		if op >= api.Nop && op <= api.LoopR {
			return
		}
		for _, v := range values {
			wantNoValue(t, api.Inst{Op: op, Imm: v}, 12)
			wantNoValue(t, api.Inst{Op: op, Imm: v, Ext: true, D: 255, Mode: 255}, 0xffffffff)
		}
	})
}

func TestValuesDoNotDependOnTheAddress(t *testing.T) {
	for _, l := range table {
		if l.holds != "value" {
			continue
		}
		for _, v := range imms() {
			for _, pc := range pcs {
				if got, ok := ext.Value(api.Inst{Op: l.op, Imm: v}, pc); got != v || !ok {
					t.Errorf("Value of %d by the op %d at %#x: %d, %t", v, l.op, pc, got, ok)
				}
			}
		}
	}
}

// hop is a target, the address of the packet, and the target's value there.
type hop struct {
	to   int64
	pc   uint32
	want int64
}

func checkHops(t *testing.T, hops []hop) {
	t.Helper()
	for _, l := range table {
		if l.holds != "target" {
			continue
		}
		for _, x := range hops {
			if got, ok := ext.Value(api.Inst{Op: l.op, Imm: x.to}, x.pc); got != x.want || !ok {
				t.Errorf("Value of the target %d by the op %d at %#x: %d, %t, not %d", x.to, l.op, x.pc, got, ok, x.want)
			}
		}
	}
}

func TestTargetsAheadAndBehind(t *testing.T) {
	checkHops(t, []hop{
		{0, 0, 0}, {12, 12, 0}, {16, 12, 4}, {8, 12, -4}, {0x1000, 0, 4096}, {0, 0x1000, -4096},
		{0x7ffffffc, 0, 2147483644}, {0, 0x7ffffffc, -2147483644},
		{0x80000000, 0, -2147483648}, {0, 0x80000000, -2147483648}, {0x80000004, 0, -2147483644}, {0, 0x80000004, 2147483644},
		{0x80000000, 0x80000000, 0}, {0x80000000, 0x7ffffffc, 4}, {0x7ffffffc, 0x80000000, -4}, {0xfffffffc, 0x7ffffffc, -2147483648},
		{0xfffffffc, 0, -4}, {0, 0xfffffffc, 4}, {4, 0xfffffffc, 8}, {0xfffffff8, 4, -12},
		{0xfffffffc, 0xfffffffc, 0}, {0xfffffff8, 0xfffffffc, -4}, {0xfffffffc, 0xfffffff8, 4},
		{0xffffffff, 0, -1}, {0, 0xffffffff, 1}, {8, 11, -3}, {7, 12, -5},
	})
}

// A target beyond the addresses is not valid, but its value counts modulo 2^32 like any other.
func TestTargetsBeyondTheAddresses(t *testing.T) {
	checkHops(t, []hop{
		{4294967296, 0, 0}, {4294967296 + 8, 12, -4}, {8 - 4294967296, 12, -4}, {-4, 0, -4}, {-4, 0xfffffffc, 0},
		{-4294967296, 0, 0}, {-1, 0, -1}, {1 << 40, 4, -4}, {math.MinInt64, 4, -4}, {math.MinInt64, 0xffffffff, 1},
		{math.MaxInt64, 0, -1}, {math.MaxInt64, 0xffffffff, 0}, {math.MaxInt64 - 3, 0xfffffff8, 4}, {6442450944, 0, -2147483648},
	})
}

// instOf is the instruction of the line whose value at pc is v.
func instOf(l line, v int64, pc uint32) api.Inst {
	if l.holds == "target" {
		return api.Inst{Op: l.op, Imm: wrapped(int64(pc) + v)}
	}
	return api.Inst{Op: l.op, Imm: v}
}

func TestFitsAtTheBordersOfEachField(t *testing.T) {
	for _, l := range table {
		for _, pc := range pcs {
			for _, v := range []int64{0, l.step, l.least, l.least + l.step, l.most - l.step, l.most} {
				wantFit(t, l, instOf(l, v, pc), pc, true)
			}
			for _, v := range []int64{l.least - 1, l.least - l.step, l.most + 1, l.most + l.step, 2 * l.most, 2*l.least - l.step, -all / 2, all/2 - l.step} {
				wantFit(t, l, instOf(l, v, pc), pc, false)
			}
		}
	}
}

func TestWhatTheScaleDoesNotDivideDoesNotFit(t *testing.T) {
	for _, l := range table {
		for _, pc := range []uint32{0, 12, 0x80000000, 0xfffffffc} {
			for off := int64(1); off < l.step; off++ {
				for _, v := range []int64{l.least + off, off - l.step, off, l.most - l.step + off, l.most + off} {
					wantFit(t, l, instOf(l, v, pc), pc, false)
				}
			}
		}
	}
}

func TestValuesBeyond32BitsDoNotFit(t *testing.T) {
	for _, l := range table {
		if l.holds != "value" {
			continue
		}
		for _, far := range []int64{all, -all, 1 << 40, -1 << 40, 1 << 62, math.MinInt64} {
			for _, near := range []int64{0, l.step, l.most} {
				wantFit(t, l, api.Inst{Op: l.op, Imm: far + near}, 0, false)
			}
		}
		wantFit(t, l, api.Inst{Op: l.op, Imm: math.MaxInt64}, 0, false)
	}
}

// others are the members that the functions do not look at, set to values of fields and beyond them.
func others() []api.Inst {
	return []api.Inst{
		{Ext: true},
		{New: true},
		{D: 1, S: 2, T: 3}, {D: 31, S: 31, T: 31}, {D: 255}, {S: 255}, {T: 255},
		{N: 1}, {N: 255},
		{Mode: api.If, Pred: 1}, {Mode: api.NotNew, Pred: 3, Ext: true}, {Pred: 3}, {Mode: 255}, {Pred: 255},
		{Count: 1}, {Count: 2047, Ext: true}, {Count: 65535},
		{D: 255, S: 255, T: 255, N: 255, Pred: 255, Mode: 255, New: true, Ext: true, Count: 65535},
	}
}

func TestExtAndTheOtherMembersMakeNoDifference(t *testing.T) {
	values, sets := imms(), others()
	eachOp(func(op uint8) {
		for _, v := range values {
			for _, pc := range []uint32{0, 12, 0xfffffffc} {
				want := toldOf(api.Inst{Op: op, Imm: v}, pc)
				for _, in := range sets {
					in.Op, in.Imm = op, v
					if got := toldOf(in, pc); got != want {
						t.Errorf("%+v at %#x: %+v, not %+v", in, pc, got, want)
					}
				}
			}
		}
	})
}

// P5.2

func TestSplitOfEachValue(t *testing.T) {
	for _, x := range []struct {
		v            int64
		upper, lower uint32
	}{
		{0, 0, 0}, {1, 0, 1}, {254, 0, 254}, {255, 0, 255}, {256, 1, 0}, {257, 1, 1}, {511, 1, 255}, {512, 2, 0},
		{-1, 0xffffff, 0xff}, {-255, 0xffffff, 1}, {-256, 0xffffff, 0}, {-257, 0xfffffe, 0xff},
		{0x12345678, 0x123456, 0x78}, {-0x12345678, 0xedcba9, 0x88},
		{0x7fffffff, 0x7fffff, 0xff}, {0x7fffff00, 0x7fffff, 0}, {-0x80000000, 0x800000, 0}, {-0x7fffff01, 0x800000, 0xff},
		{0x80000000, 0x800000, 0}, {0xffffffff, 0xffffff, 0xff}, {0xffffff00, 0xffffff, 0},
		{0x100000000, 0, 0}, {0x1000001ff, 1, 0xff}, {-0x100000000, 0, 0}, {-0x100000001, 0xffffff, 0xff}, {-0x80000001, 0x7fffff, 0xff},
		{1 << 40, 0, 0}, {0x123456789a, 0x345678, 0x9a}, {math.MaxInt64, 0xffffff, 0xff}, {math.MinInt64, 0, 0}, {math.MinInt64 + 256, 1, 0},
	} {
		if upper, lower := ext.Split(x.v); upper != x.upper || lower != x.lower {
			t.Errorf("Split(%#x): %#x, %#x, not %#x, %#x", x.v, upper, lower, x.upper, x.lower)
		}
	}
}

func TestSplitIsTheValueModulo32Bits(t *testing.T) {
	for _, v := range imms() {
		upper, lower := ext.Split(v)
		if int64(upper) != wrapped(v)/256 || int64(lower) != wrapped(v)%256 {
			t.Errorf("Split(%#x): %#x, %#x", v, upper, lower)
		}
	}
}

func TestJoinOfEachPair(t *testing.T) {
	for _, x := range []struct {
		upper, lower uint32
		want         int64
	}{
		{0, 0, 0}, {0, 1, 1}, {0, 0xff, 255}, {1, 0, 256}, {1, 0xff, 511},
		{0xffffff, 0xff, -1}, {0xffffff, 0, -256}, {0xffffff, 1, -255}, {0xfffffe, 0xff, -257},
		{0x7fffff, 0xff, 2147483647}, {0x7fffff, 0, 2147483392}, {0x800000, 0, -2147483648}, {0x800000, 0xff, -2147483393},
		{0x123456, 0x78, 0x12345678}, {0xedcba9, 0x88, -0x12345678},
	} {
		if got := ext.Join(x.upper, x.lower); got != x.want {
			t.Errorf("Join(%#x, %#x): %d, not %d", x.upper, x.lower, got, x.want)
		}
	}
}

// parts are upper and lower parts, and numbers beyond either.
var parts = []uint32{
	0, 1, 0x78, 0x7f, 0x80, 0xfe, 0xff, 0x100, 0x101, 0x1ff, 0x123456, 0x7fffff, 0x800000, 0xfffffe, 0xffffff,
	0x1000000, 0x1000001, 0x1ffffff, 0x7fffffff, 0x80000000, 0xff000000, 0xff0000ff, 0xffffff00, 0xfffffffe, 0xffffffff,
}

func TestJoinTakesTheLowestBits(t *testing.T) {
	for _, upper := range parts {
		for _, lower := range parts {
			want := asSigned(int64(upper%0x1000000)*256 + int64(lower%0x100))
			if got := ext.Join(upper, lower); got != want {
				t.Errorf("Join(%#x, %#x): %d, not %d", upper, lower, got, want)
			}
		}
	}
	for _, x := range []struct {
		upper, lower uint32
		want         int64
	}{
		{0x1000000, 0, 0}, {0x1000001, 0x1ff, 0x1ff}, {0, 0x100, 0}, {0, 0xffffff00, 0}, {0xff000000, 0xffffff00, 0},
		{0x1800000, 0, -2147483648}, {0xffffffff, 0xffffffff, -1},
	} {
		if got := ext.Join(x.upper, x.lower); got != x.want {
			t.Errorf("Join(%#x, %#x): %d, not %d", x.upper, x.lower, got, x.want)
		}
	}
}

func TestTargetOfEachPair(t *testing.T) {
	for _, x := range []struct {
		rel  int64
		pc   uint32
		want int64
	}{
		{0, 0, 0}, {4, 0, 4}, {-4, 12, 8}, {4, 12, 16}, {-12, 12, 0}, {-16, 12, 4294967292},
		{-4, 0, 4294967292}, {-1, 0, 4294967295}, {4, 0xfffffffc, 0}, {8, 0xfffffffc, 4}, {1, 0xffffffff, 0}, {0, 0xffffffff, 4294967295},
		{2147483647, 0, 2147483647}, {2147483647, 1, 2147483648}, {2147483644, 0x80000000, 4294967292}, {2147483647, 0xffffffff, 2147483646},
		{-2147483648, 0, 2147483648}, {-2147483648, 0x80000000, 0}, {-2147483648, 0x7fffffff, 4294967295}, {-2147483648, 0xffffffff, 2147483647},
		{4294967292, 0, 4294967292}, {4294967296, 12, 12}, {-4294967296, 12, 12}, {4294967295, 1, 0}, {1 << 40, 8, 8},
		{math.MaxInt64, 0, 4294967295}, {math.MaxInt64, 0xffffffff, 4294967294}, {math.MinInt64, 0, 0}, {math.MinInt64, 0xfffffffc, 4294967292},
	} {
		if got := ext.Target(x.rel, x.pc); got != x.want {
			t.Errorf("Target(%d, %#x): %d, not %d", x.rel, x.pc, got, x.want)
		}
	}
}

func TestTargetIsAnAddress(t *testing.T) {
	for _, rel := range imms() {
		for _, pc := range pcs {
			if got, want := ext.Target(rel, pc), wrapped(wrapped(rel)+int64(pc)); got != want {
				t.Errorf("Target(%d, %#x): %d, not %d", rel, pc, got, want)
			}
		}
	}
}

// P5.3

func TestJoinOfTheParts(t *testing.T) {
	back := func(v int64) {
		if upper, lower := ext.Split(v); upper >= 1<<24 || lower >= 1<<8 || ext.Join(upper, lower) != v {
			t.Errorf("Join of Split(%d), which is %#x, %#x: %d", v, upper, lower, ext.Join(upper, lower))
		}
	}
	for _, v := range imms() {
		back(asSigned(v))
	}
	for about := int64(-600); about <= 600; about++ {
		back(about)
		back(asSigned(2147483648 + about))
	}
	for bit := range 32 {
		back(asSigned(int64(1) << bit))
		back(asSigned(^(int64(1) << bit)))
	}
}

func TestTargetOfTheValue(t *testing.T) {
	tried := 0
	eachImm(func(in api.Inst, pc uint32) {
		l, _ := lineOf(in.Op)
		if l.holds != "target" || in.Imm != wrapped(in.Imm) {
			return
		}
		tried++
		v, ok := ext.Value(in, pc)
		if !ok || v < -all/2 || v >= all/2 || ext.Target(v, pc) != in.Imm {
			t.Errorf("Target of Value(%+v, %#x), which is %d, %t: %d", in, pc, v, ok, ext.Target(v, pc))
		}
	})
	if tried < 1000 {
		t.Errorf("too few targets are tried: %d", tried)
	}
}

func TestWhatMayBeExtendedFitsOrNeedsIt(t *testing.T) {
	tried := 0
	eachImm(func(in api.Inst, pc uint32) {
		fits, needs := ext.Fits(in, pc), ext.Needs(in, pc)
		if ext.Extendable(in.Op) {
			tried++
			if fits == needs {
				t.Errorf("%+v at %#x: fits %t, needs %t", in, pc, fits, needs)
			}
		} else if needs {
			t.Errorf("%+v at %#x needs an extender", in, pc)
		}
	})
	if tried < 1000 {
		t.Errorf("too few that may be extended are tried: %d", tried)
	}
}

// R3: results do not depend on what was called before.
func TestResultsAreTheSameEachTime(t *testing.T) {
	for range 3 {
		TestExamples(t)
		TestExtendableOfEachOp(t)
		TestSplitOfEachValue(t)
		TestJoinOfEachPair(t)
		TestTargetOfEachPair(t)
		for _, l := range table {
			check(t, instOf(l, l.most, 12), 12)
			check(t, instOf(l, l.most+1, 12), 12)
		}
		toldOf(api.Inst{Op: 200, D: 255, Imm: -1}, 1)
	}
}
