package enc_test

import (
	"math"
	"strings"
	"testing"

	"coxless/api"
	"coxless/enc"
	"coxless/inst"
)

// sample is an instruction at an address, with its word and its upper part; they were worked out from the document's table, apart from the program.
type sample struct {
	in       api.Inst
	pc       uint32
	w, upper uint32
}

var samples = []sample{
	{api.Inst{Op: api.Nop}, 0, 0x04000000, 0},
	{api.Inst{Op: api.Add, D: 1, S: 2, T: 3}, 0, 0x08010430, 0},
	{api.Inst{Op: api.Add, Mode: 3, Pred: 1, D: 1, S: 3, T: 2}, 0, 0x09a10620, 0},
	{api.Inst{Op: api.Sub, Mode: 4, Pred: 3, D: 31, S: 31, T: 31}, 0, 0x0e7f3ff0, 0},
	{api.Inst{Op: api.And, Mode: 1, D: 16, S: 8, T: 4}, 0, 0x10901040, 0},
	{api.Inst{Op: api.Or, Mode: 2, Pred: 2, S: 1, T: 16}, 0, 0x15400300, 0},
	{api.Inst{Op: api.Xor, D: 21, S: 10, T: 21}, 0, 0x18151550, 0},
	{api.Inst{Op: api.AddI, D: 3, S: 4, Imm: 8191}, 0, 0x1c641fff, 0},
	{api.Inst{Op: api.AddI, D: 3, S: 4, Imm: -8192}, 0, 0x1c642000, 0},
	{api.Inst{Op: api.AddI, D: 29, S: 30, Imm: -559038737, Ext: true}, 0, 0x1fbe00ef, 0xdeadbe},
	{api.Inst{Op: api.MovI, D: 1, Imm: -1}, 0, 0x20013fff, 0},
	{api.Inst{Op: api.MovI, D: 1, Imm: 305419896, Ext: true}, 0, 0x20010078, 0x123456},
	{api.Inst{Op: api.MovI, Mode: 2, Pred: 1, D: 7, Imm: 5, Ext: true}, 0, 0x21270005, 0},
	{api.Inst{Op: api.Mov, Mode: 1, Pred: 3, D: 9, S: 18}, 0, 0x24e92400, 0},
	{api.Inst{Op: api.CmpEq, D: 3, S: 5, T: 6}, 0, 0x2b292000, 0},
	{api.Inst{Op: api.CmpGt, D: 2, S: 31, T: 0}, 0, 0x2ef80000, 0},
	{api.Inst{Op: api.CmpGtu, D: 1, S: 0, T: 31}, 0, 0x31073000, 0},
	{api.Inst{Op: api.CmpEqI, D: 2, S: 4, Imm: -8192}, 0, 0x36240000, 0},
	{api.Inst{Op: api.CmpEqI, D: 2, S: 4, Imm: 8192, Ext: true}, 0, 0x36200000, 0x20},
	{api.Inst{Op: api.Mux, D: 1, Pred: 2, S: 3, T: 4}, 0, 0x38303200, 0},
	{api.Inst{Op: api.Asl, D: 1, S: 2, Imm: 31}, 0, 0x3c223e00, 0},
	{api.Inst{Op: api.Lsr, D: 31, S: 0, Imm: 1}, 0, 0x43e00200, 0},
	{api.Inst{Op: api.Asr, D: 0, S: 31, Imm: 16}, 0, 0x441f2000, 0},
	{api.Inst{Op: api.Mpy, D: 1, S: 2, T: 3}, 0, 0x48220600, 0},
	{api.Inst{Op: api.Cmpy, D: 30, S: 29, T: 28}, 0, 0x4fdd3800, 0},
	{api.Inst{Op: api.CmpyC, D: 17, S: 17, T: 17}, 0, 0x52312200, 0},
	{api.Inst{Op: api.LdW, D: 1, S: 2, Imm: 8188}, 0, 0x54221ffc, 0},
	{api.Inst{Op: api.LdW, D: 1, S: 2, Imm: -8}, 0, 0x54223ff8, 0},
	{api.Inst{Op: api.LdW, D: 1, S: 2, Imm: 6, Ext: true}, 0, 0x54220018, 0},
	{api.Inst{Op: api.LdH, D: 4, S: 5, Imm: -4096}, 0, 0x58852000, 0},
	{api.Inst{Op: api.LdB, D: 6, S: 7, Imm: 2047}, 0, 0x5cc71ffc, 0},
	{api.Inst{Op: api.LdB, D: 6, S: 7, Imm: -2048}, 0, 0x5cc72000, 0},
	{api.Inst{Op: api.StW, S: 2, New: true, T: 1, Imm: 0}, 0, 0x60502000, 0},
	{api.Inst{Op: api.StW, S: 5, T: 5, Imm: -4}, 0, 0x60a23ffe, 0},
	{api.Inst{Op: api.StH, S: 31, New: true, T: 31, Imm: 4094}, 0, 0x67ff2ffe, 0},
	{api.Inst{Op: api.StB, S: 8, T: 9, Imm: -1}, 0, 0x69043ffe, 0},
	{api.Inst{Op: api.StB, S: 8, New: true, T: 9, Imm: -2147483648, Ext: true}, 0, 0x69142000, 0x800000},
	{api.Inst{Op: api.Jump, Imm: 8}, 12, 0x6c1f3fff, 0},
	{api.Inst{Op: api.Jump, Imm: 96}, 100, 0x6c1f3fff, 0},
	{api.Inst{Op: api.Jump, Imm: 8, Ext: true}, 12, 0x6c0000fc, 0xffffff},
	{api.Inst{Op: api.Jump, Mode: 4, Pred: 1, Imm: 1048572}, 0, 0x6e2f3fff, 0},
	{api.Inst{Op: api.Jump, Imm: 0}, 0xfffffffc, 0x6c000001, 0},
	{api.Inst{Op: api.Jump, Imm: 4294967292}, 0, 0x6c1f3fff, 0},
	{api.Inst{Op: api.JumpR, S: 31}, 0, 0x701f0000, 0},
	{api.Inst{Op: api.JumpR, Mode: 3, Pred: 2, S: 15}, 0, 0x71cf0000, 0},
	{api.Inst{Op: api.Call, Imm: 33554428}, 0, 0x75ff3fff, 0},
	{api.Inst{Op: api.Call, Imm: 0}, 0x2000000, 0x76000000, 0},
	{api.Inst{Op: api.Call, Imm: 2147483648, Ext: true}, 4, 0x740000fc, 0x7fffff},
	{api.Inst{Op: api.Call, Imm: 0, Ext: true}, 0x80000000, 0x74000000, 0x800000},
	{api.Inst{Op: api.LoopI, N: 1, Imm: 4, Count: 2047}, 0, 0x7a000fff, 0},
	{api.Inst{Op: api.LoopI, Imm: 0, Count: 1}, 0x2000, 0x79000001, 0},
	{api.Inst{Op: api.LoopR, N: 1, Imm: 8, S: 21}, 16, 0x7fff3540, 0},
	{api.Inst{Op: api.LoopR, Imm: 1048576, S: 1, Ext: true}, 0, 0x7c000040, 0x1000},
}

// line is an op with its payload drawn bit by bit from the top: m Mode, p Pred, d D, s S, t T, n N, w New, c Count, i the value field, and - for no field; then the value field's least and greatest value and its step.
type line struct {
	op          uint8
	drawn       string
	least, most int64
	step        int64
	target, ext bool
}

var lines = []line{
	{op: api.Nop, drawn: "------------------------"},
	{op: api.Add, drawn: "mmmppdddddsssssttttt----"},
	{op: api.Sub, drawn: "mmmppdddddsssssttttt----"},
	{op: api.And, drawn: "mmmppdddddsssssttttt----"},
	{op: api.Or, drawn: "mmmppdddddsssssttttt----"},
	{op: api.Xor, drawn: "mmmppdddddsssssttttt----"},
	{api.AddI, "dddddsssssiiiiiiiiiiiiii", -8192, 8191, 1, false, true},
	{api.MovI, "mmmppdddddiiiiiiiiiiiiii", -8192, 8191, 1, false, true},
	{op: api.Mov, drawn: "mmmppdddddsssss---------"},
	{op: api.CmpEq, drawn: "ddsssssttttt------------"},
	{op: api.CmpGt, drawn: "ddsssssttttt------------"},
	{op: api.CmpGtu, drawn: "ddsssssttttt------------"},
	{api.CmpEqI, "ddsssssiiiiiiiiiiiiii---", -8192, 8191, 1, false, true},
	{op: api.Mux, drawn: "dddddppsssssttttt-------"},
	{api.Asl, "dddddsssssiiiii---------", 0, 31, 1, false, false},
	{api.Lsr, "dddddsssssiiiii---------", 0, 31, 1, false, false},
	{api.Asr, "dddddsssssiiiii---------", 0, 31, 1, false, false},
	{op: api.Mpy, drawn: "dddddsssssttttt---------"},
	{op: api.Cmpy, drawn: "dddddsssssttttt---------"},
	{op: api.CmpyC, drawn: "dddddsssssttttt---------"},
	{api.LdW, "dddddsssssiiiiiiiiiiii--", -8192, 8188, 4, false, true},
	{api.LdH, "dddddsssssiiiiiiiiiiii--", -4096, 4094, 2, false, true},
	{api.LdB, "dddddsssssiiiiiiiiiiii--", -2048, 2047, 1, false, true},
	{api.StW, "ssssswtttttiiiiiiiiiiii-", -8192, 8188, 4, false, true},
	{api.StH, "ssssswtttttiiiiiiiiiiii-", -4096, 4094, 2, false, true},
	{api.StB, "ssssswtttttiiiiiiiiiiii-", -2048, 2047, 1, false, true},
	{api.Jump, "mmmppiiiiiiiiiiiiiiiiiii", -1048576, 1048572, 4, true, true},
	{op: api.JumpR, drawn: "mmmppsssss--------------"},
	{api.Call, "iiiiiiiiiiiiiiiiiiiiiiii", -33554432, 33554428, 4, true, true},
	{api.LoopI, "niiiiiiiiiiiiccccccccccc", -8192, 8188, 4, true, true},
	{api.LoopR, "niiiiiiiiiiiisssss------", -8192, 8188, 4, true, true},
}

// all is 2^32, the number of addresses.
const all = int64(4294967296)

// pcs are addresses at both ends of the 32 bits and in their middle, and some that no packet has.
var pcs = []uint32{0, 1, 2, 3, 4, 12, 8192, 0x12345678, 0x7ffffffc, 0x80000000, 0x80000004, 0xfffffff8, 0xfffffffc, 0xfffffffe, 0xffffffff}

func wrapped(v int64) int64 {
	v %= all
	if v < 0 {
		v += all
	}
	return v
}

func asSigned(v int64) int64 {
	v = wrapped(v)
	if v >= all/2 {
		v -= all
	}
	return v
}

func lineOf(op uint8) (line, bool) {
	for _, l := range lines {
		if l.op == op {
			return l, true
		}
	}
	return line{}, false
}

// drawnWord spells the word out: the code, the payload's upper 10 bits, two parse bits, and its lower 14 bits.
func drawnWord(code uint8, payload string) uint32 {
	spelt, rest := "", int(code)
	for range 6 {
		spelt = string(rune('0'+rest%2)) + spelt
		rest /= 2
	}
	w := uint32(0)
	for _, digit := range spelt + payload[:10] + "00" + payload[10:] {
		w = w*2 + uint32(digit-'0')
	}
	return w
}

// spellPayload undoes drawnWord but for the code and the parse bits.
func spellPayload(w uint32) string {
	spelt := ""
	for range 32 {
		spelt = string(rune('0'+w%2)) + spelt
		w /= 2
	}
	return spelt[6:16] + spelt[18:]
}

// without returns the payload with every bit of a letter 0.
func without(l line, payload string, letter byte) string {
	left := []byte(payload)
	for k := range left {
		if l.drawn[k] == letter {
			left[k] = '0'
		}
	}
	return string(left)
}

// put writes the lowest bits of v on those that the line draws with the letter.
func put(l line, payload string, letter byte, v int64) string {
	left := []byte(payload)
	for k := len(left) - 1; k >= 0; k-- {
		if l.drawn[k] == letter {
			left[k] = '0' + byte(v&1)
			v >>= 1
		}
	}
	return string(left)
}

func get(l line, payload string, letter byte) int64 {
	v := int64(0)
	for k := range payload {
		if l.drawn[k] == letter {
			v = v*2 + int64(payload[k]-'0')
		}
	}
	return v
}

func zeros() string {
	return strings.Repeat("0", 24)
}

// valueAt is the value that in's field holds at pc.
func valueAt(l line, in api.Inst, pc uint32) int64 {
	if l.target {
		return asSigned(wrapped(in.Imm) - int64(pc))
	}
	return in.Imm
}

// wantOf works a word out from what the lines draw.
func wantOf(in api.Inst, pc uint32) (w, upper uint32, ok bool) {
	l, is := lineOf(in.Op)
	if !is || !inst.Right(in) {
		return 0, 0, false
	}
	v := valueAt(l, in, pc)
	if l.step != 0 && !in.Ext && (v < l.least || v > l.most || v%l.step != 0) {
		return 0, 0, false
	}
	held := int64(0)
	if in.Ext {
		upper, held = uint32(wrapped(v)/256), wrapped(v)%256
	} else if l.step != 0 {
		held = v / l.step
	}
	fresh := int64(0)
	if in.New {
		fresh = 1
	}
	payload := zeros()
	for letter, v := range map[byte]int64{
		'm': int64(in.Mode), 'p': int64(in.Pred), 'd': int64(in.D), 's': int64(in.S), 't': int64(in.T),
		'n': int64(in.N), 'c': int64(in.Count), 'w': fresh, 'i': held,
	} {
		payload = put(l, payload, letter, v)
	}
	return drawnWord(in.Op, payload), upper, true
}

// wantInst works out what a word says from what the lines draw.
func wantInst(w, upper uint32, has bool, pc uint32) (api.Inst, bool) {
	l, is := lineOf(uint8(w / 0x04000000))
	if !is {
		return api.Inst{}, false
	}
	payload := spellPayload(w)
	take := func(letter byte) uint8 { return uint8(get(l, payload, letter)) }
	in := api.Inst{
		Op: l.op, Ext: has, Mode: take('m'), Pred: take('p'), D: take('d'), S: take('s'), T: take('t'),
		N: take('n'), New: take('w') == 1, Count: uint16(get(l, payload, 'c')),
	}
	held := get(l, payload, 'i')
	v := held * l.step
	if has {
		v = asSigned(int64(upper)*256 + held)
	} else if v > l.most {
		v -= l.most + l.step - l.least
	}
	if l.target {
		v = wrapped(int64(pc) + v)
	}
	in.Imm = v
	wrong := has && (!l.ext || held > 255 || upper > 16777215)
	if wrong || get(l, payload, '-') != 0 || !inst.Right(in) {
		return api.Inst{}, false
	}
	return in, true
}

func checkWord(t *testing.T, in api.Inst, pc uint32) bool {
	t.Helper()
	w, upper, ok := enc.Word(in, pc)
	wantW, wantUpper, wantOK := wantOf(in, pc)
	if w != wantW || upper != wantUpper || ok != wantOK {
		t.Errorf("Word(%+v, %#x): %#08x, %#x, %t, not %#08x, %#x, %t", in, pc, w, upper, ok, wantW, wantUpper, wantOK)
	}
	if !ok {
		return false
	}
	if back, is := enc.Inst(w, upper, in.Ext, pc); !is || back != in {
		t.Errorf("Inst of Word(%+v, %#x): %+v, %t", in, pc, back, is)
	}
	return true
}

func checkInst(t *testing.T, w, upper uint32, has bool, pc uint32) bool {
	t.Helper()
	in, ok := enc.Inst(w, upper, has, pc)
	want, wantOK := wantInst(w, upper, has, pc)
	if in != want || ok != wantOK {
		t.Errorf("Inst(%#08x, %#x, %t, %#x): %+v, %t, not %+v, %t", w, upper, has, pc, in, ok, want, wantOK)
	}
	if !ok {
		return false
	}
	if back, up, is := enc.Word(in, pc); !is || back != w&^0xc000 || up != upper {
		t.Errorf("Word of Inst(%#08x, %#x, %t, %#x): %#08x, %#x, %t", w, upper, has, pc, back, up, is)
	}
	return true
}

func wantNoWord(t *testing.T, in api.Inst, pc uint32) {
	t.Helper()
	if w, upper, ok := enc.Word(in, pc); w != 0 || upper != 0 || ok {
		t.Errorf("Word(%+v, %#x): %#08x, %#x, %t", in, pc, w, upper, ok)
	}
}

func wantNoInst(t *testing.T, w, upper uint32, has bool, pc uint32) {
	t.Helper()
	if in, ok := enc.Inst(w, upper, has, pc); in != (api.Inst{}) || ok {
		t.Errorf("Inst(%#08x, %#x, %t, %#x): %+v, %t", w, upper, has, pc, in, ok)
	}
}

// instOf is an instruction of the line, all of its other fields 0, whose value at pc is v.
func instOf(l line, v int64, pc uint32, extended bool) api.Inst {
	in := api.Inst{Op: l.op, Imm: v, Ext: extended}
	if l.target {
		in.Imm = wrapped(int64(pc) + v)
	}
	return in
}

// The examples of the chapter

func TestExamples(t *testing.T) {
	if w, upper, ok := enc.Word(api.Inst{Op: api.Add, D: 1, S: 2, T: 3}, 0); w != 0x08010430 || upper != 0 || !ok {
		t.Errorf("r1 = add(r2,r3): %#08x, %#x, %t", w, upper, ok)
	}
	if w, upper, ok := enc.Word(api.Inst{Op: api.MovI, D: 1, Imm: -1}, 0); w != 0x20013fff || upper != 0 || !ok {
		t.Errorf("r1 = #-1: %#08x, %#x, %t", w, upper, ok)
	}
	if w, upper, ok := enc.Word(api.Inst{Op: api.MovI, D: 1, Imm: 0x12345678, Ext: true}, 0); w != 0x20010078 || upper != 0x123456 || !ok {
		t.Errorf("r1 = #0x12345678 with Ext: %#08x, %#x, %t", w, upper, ok)
	}
	wantNoWord(t, api.Inst{Op: api.MovI, D: 1, Imm: 0x12345678}, 0)
	if w, upper, ok := enc.Word(api.Inst{Op: api.Jump, Imm: 8}, 12); w != 0x6c1f3fff || upper != 0 || !ok {
		t.Errorf("jump to 8 at 12: %#08x, %#x, %t", w, upper, ok)
	}
	if in, ok := enc.Inst(0x6c1f3fff, 0, false, 100); in != (api.Inst{Op: api.Jump, Imm: 96}) || !ok {
		t.Errorf("0x6c1f3fff at 100: %+v, %t", in, ok)
	}
	wantNoInst(t, 0, 0, false, 0)
	wantNoInst(t, 0x04000001, 0, false, 0)
}

// P6.1 and P6.2 on ordinary inputs

func TestWordOfEachSample(t *testing.T) {
	for _, x := range samples {
		if w, upper, ok := enc.Word(x.in, x.pc); w != x.w || upper != x.upper || !ok {
			t.Errorf("Word(%+v, %#x): %#08x, %#x, %t, not %#08x, %#x", x.in, x.pc, w, upper, ok, x.w, x.upper)
		}
	}
}

func TestInstOfEachSample(t *testing.T) {
	for _, x := range samples {
		if in, ok := enc.Inst(x.w, x.upper, x.in.Ext, x.pc); in != x.in || !ok {
			t.Errorf("Inst(%#08x, %#x, %t, %#x): %+v, %t, not %+v", x.w, x.upper, x.in.Ext, x.pc, in, ok, x.in)
		}
	}
}

// The samples and the lines hold each op, so that none is left out.
func TestEachOpIsTried(t *testing.T) {
	var sampled, drawn [256]bool
	for _, x := range samples {
		sampled[x.in.Op] = true
	}
	for _, l := range lines {
		drawn[l.op] = len(l.drawn) == 24
	}
	for op := range 256 {
		want := op >= api.Nop && op <= api.LoopR
		if sampled[op] != want || drawn[op] != want {
			t.Errorf("op %d: sampled %t, drawn %t", op, sampled[op], drawn[op])
		}
	}
}

func TestParseBitsAreIgnored(t *testing.T) {
	for _, x := range samples {
		for parse := range uint32(4) {
			if in, ok := enc.Inst(x.w|parse<<14, x.upper, x.in.Ext, x.pc); in != x.in || !ok {
				t.Errorf("Inst(%#08x with the parse bits %d): %+v, %t, not %+v", x.w, parse, in, ok, x.in)
			}
		}
	}
	for parse := range uint32(4) {
		wantNoInst(t, parse<<14, 0, false, 0)
		wantNoInst(t, 0x04000001|parse<<14, 0, false, 0)
		wantNoInst(t, 0x80000000|parse<<14, 0, false, 0)
	}
}

// P6.1: which instructions have a word

func TestNoWordForWhatIsNotValid(t *testing.T) {
	for _, in := range []api.Inst{
		{}, {Op: 32}, {Op: 63}, {Op: 64}, {Op: 65}, {Op: 255}, {Ext: true}, {Op: 64 + api.Add, D: 1},
		{Op: api.Nop, D: 1}, {Op: api.Nop, Imm: 1}, {Op: api.Nop, Ext: true}, {Op: api.Nop, Mode: 1}, {Op: api.Nop, New: true},
		{Op: api.Add, D: 32}, {Op: api.Add, S: 32}, {Op: api.Add, T: 255}, {Op: api.Add, Imm: 1}, {Op: api.Add, Ext: true}, {Op: api.Add, Count: 1}, {Op: api.Add, N: 1},
		{Op: api.Add, Mode: 5}, {Op: api.Add, Mode: 8, Pred: 0}, {Op: api.Add, Mode: 255}, {Op: api.Add, Pred: 1}, {Op: api.Add, Mode: 1, Pred: 4},
		{Op: api.AddI, T: 1}, {Op: api.AddI, Imm: 8192}, {Op: api.AddI, Imm: -8193}, {Op: api.AddI, Mode: 1},
		{Op: api.MovI, Imm: 1 << 31, Ext: true}, {Op: api.MovI, Imm: -1<<31 - 1, Ext: true}, {Op: api.MovI, Imm: 1 << 32, Ext: true},
		{Op: api.MovI, Imm: math.MaxInt64}, {Op: api.MovI, Imm: math.MinInt64, Ext: true}, {Op: api.MovI, Imm: 1 << 32}, {Op: api.MovI, S: 1},
		{Op: api.Mov, New: true}, {Op: api.Mov, T: 1}, {Op: api.CmpEq, D: 4}, {Op: api.CmpEqI, D: 4}, {Op: api.CmpEq, Pred: 1}, {Op: api.Mux, Pred: 4}, {Op: api.Mux, Mode: 1},
		{Op: api.Asl, Imm: 32}, {Op: api.Asl, Imm: -1}, {Op: api.Asl, Imm: 1, Ext: true}, {Op: api.Asr, Imm: 256, Ext: true}, {Op: api.Mpy, Imm: 1},
		{Op: api.LdW, Imm: 6}, {Op: api.LdW, Imm: 8192}, {Op: api.LdH, Imm: 1}, {Op: api.LdB, Imm: 2048}, {Op: api.LdW, New: true}, {Op: api.LdW, T: 1},
		{Op: api.StW, D: 1}, {Op: api.StW, Imm: -8196}, {Op: api.StH, Imm: 3}, {Op: api.StB, Imm: -2049},
		{Op: api.Jump, Imm: 6}, {Op: api.Jump, Imm: -4}, {Op: api.Jump, Imm: all}, {Op: api.Jump, Imm: 6, Ext: true}, {Op: api.Jump, Imm: all, Ext: true}, {Op: api.Jump, Imm: -4, Ext: true},
		{Op: api.Jump, S: 1}, {Op: api.JumpR, Imm: 4}, {Op: api.JumpR, Ext: true}, {Op: api.Call, D: 31}, {Op: api.Call, Mode: 1}, {Op: api.Call, Imm: 2, Ext: true},
		{Op: api.LoopI, Count: 2048}, {Op: api.LoopI, N: 2}, {Op: api.LoopI, S: 1}, {Op: api.LoopR, Count: 1}, {Op: api.LoopR, N: 255}, {Op: api.LoopR, S: 32},
	} {
		for _, pc := range pcs {
			wantNoWord(t, in, pc)
		}
	}
}

// eachValueLine gives the lines that have a value field, at each address.
func eachValueLine(do func(l line, pc uint32)) {
	for _, l := range lines {
		for _, pc := range pcs {
			if l.step != 0 && (pc%4 == 0 || !l.target) {
				do(l, pc)
			}
		}
	}
}

func TestValuesThatFit(t *testing.T) {
	eachValueLine(func(l line, pc uint32) {
		for _, v := range []int64{0, l.step, l.least, l.least + l.step, l.most - l.step, l.most} {
			in := instOf(l, v, pc, false)
			if !checkWord(t, in, pc) {
				t.Errorf("Word(%+v, %#x): none", in, pc)
			}
			w, _, _ := enc.Word(in, pc)
			if want := drawnWord(l.op, put(l, zeros(), 'i', v/l.step)); w != want {
				t.Errorf("Word(%+v, %#x): %#08x, not %#08x", in, pc, w, want)
			}
		}
	})
}

func TestValuesThatDoNotFit(t *testing.T) {
	eachValueLine(func(l line, pc uint32) {
		far := []int64{l.least - 1, l.least - l.step, l.most + 1, l.most + l.step, 2*l.most + 2*l.step, 2*l.least - l.step, -all / 2, all/2 - l.step}
		for off := int64(1); off < l.step; off++ {
			far = append(far, off, -off, l.least+off, l.most-l.step+off)
		}
		for _, v := range far {
			wantNoWord(t, instOf(l, v, pc, false), pc)
		}
	})
}

func TestExtendedValuesNeedNotFit(t *testing.T) {
	eachValueLine(func(l line, pc uint32) {
		if !l.ext {
			return
		}
		values := []int64{0, 4, -4, 252, 256, -256, l.least, l.least - 4, l.most + l.step, all/2 - 4, -all / 2, 0x12345678, 0x00ffff00, 0x0000ff00, -0x12345678}
		if !l.target {
			values = append(values, 1, -1, 255, -255, 257, l.least-1, l.most+1, all/2-1, -all/2+1, 0x12345679)
		}
		for _, v := range values {
			in := instOf(l, v, pc, true)
			if !checkWord(t, in, pc) {
				t.Errorf("Word(%+v, %#x): none", in, pc)
			}
			w, upper, _ := enc.Word(in, pc)
			if want := drawnWord(l.op, put(l, zeros(), 'i', wrapped(v)%256)); w != want || int64(upper) != wrapped(v)/256 {
				t.Errorf("Word(%+v, %#x): %#08x, %#x, not %#08x, %#x", in, pc, w, upper, want, wrapped(v)/256)
			}
		}
	})
}

func TestTargetsAheadAndBehind(t *testing.T) {
	for _, x := range []struct {
		to    int64
		pc    uint32
		held  int64
		upper uint32
		lower int64
	}{
		{0, 0, 0, 0, 0}, {16, 12, 1, 0, 4}, {8, 12, -1, 0xffffff, 0xfc}, {12, 12, 0, 0, 0}, {0x1000, 0, 0x400, 0x10, 0}, {0, 0x1000, -0x400, 0xfffff0, 0},
		{0xfffffffc, 0, -1, 0xffffff, 0xfc}, {0, 0xfffffffc, 1, 0, 4}, {4, 0xfffffff8, 3, 0, 12}, {0xfffffff8, 4, -3, 0xffffff, 0xf4},
		{0x80000000, 0x7ffffffc, 1, 0, 4}, {0x7ffffffc, 0x80000000, -1, 0xffffff, 0xfc}, {0xfffffffc, 0xfffffffc, 0, 0, 0},
	} {
		for _, l := range lines {
			if !l.target {
				continue
			}
			short, long := api.Inst{Op: l.op, Imm: x.to}, api.Inst{Op: l.op, Imm: x.to, Ext: true}
			if w, upper, ok := enc.Word(short, x.pc); w != drawnWord(l.op, put(l, zeros(), 'i', x.held)) || upper != 0 || !ok {
				t.Errorf("Word(%+v, %#x): %#08x, %#x, %t", short, x.pc, w, upper, ok)
			}
			if w, upper, ok := enc.Word(long, x.pc); w != drawnWord(l.op, put(l, zeros(), 'i', x.lower)) || upper != x.upper || !ok {
				t.Errorf("Word(%+v, %#x): %#08x, %#x, %t", long, x.pc, w, upper, ok)
			}
			checkWord(t, short, x.pc)
			checkWord(t, long, x.pc)
		}
	}
}

// No target is a multiple of 4 away from such an address, but an extended value may be any.
func TestTargetsFromAddressesThatNoPacketHas(t *testing.T) {
	for _, l := range lines {
		if !l.target {
			continue
		}
		for _, pc := range []uint32{1, 2, 3, 5, 0xfffffffd, 0xfffffffe, 0xffffffff} {
			wantNoWord(t, api.Inst{Op: l.op, Imm: 8}, pc)
			wantNoInst(t, drawnWord(l.op, zeros()), 0, false, pc)
			wantNoInst(t, drawnWord(l.op, zeros()), 0, true, pc)
			if !checkWord(t, api.Inst{Op: l.op, Imm: 8, Ext: true}, pc) {
				t.Errorf("no word for the op %d with Ext at %#x", l.op, pc)
			}
		}
		wantNoInst(t, drawnWord(l.op, put(l, zeros(), 'i', 2)), 0, true, 0)
		wantNoInst(t, drawnWord(l.op, put(l, zeros(), 'i', 255)), 0xffffff, true, 0)
	}
}

// P6.2: which words encode an instruction

func TestEachFieldAtItsBorders(t *testing.T) {
	for _, l := range lines {
		for _, letter := range []byte("mpdstnwci") {
			bits := strings.Count(l.drawn, string(rune(letter)))
			for _, v := range []int64{0, 1, 2, 3, 4, 5, 7, 127, 128, 254, 255, 256, 1<<bits/2 - 1, 1 << bits / 2, 1<<bits - 2, 1<<bits - 1} {
				for _, rest := range []string{zeros(), strings.Repeat("1", 24), put(l, zeros(), 'm', 4)} {
					w := drawnWord(l.op, without(l, put(l, rest, letter, v), '-'))
					checkInst(t, w, 0, false, 12)
					checkInst(t, w, 0x123456, true, 12)
				}
			}
		}
	}
}

func TestEachBitOfNoField(t *testing.T) {
	for _, l := range lines {
		for k := range l.drawn {
			if l.drawn[k] != '-' {
				continue
			}
			one := zeros()[:k] + "1" + zeros()[k+1:]
			wantNoInst(t, drawnWord(l.op, one), 0, false, 0)
			wantNoInst(t, drawnWord(l.op, one), 0, true, 0)
			wantNoInst(t, drawnWord(l.op, one), 0xffffff, true, 0)
		}
	}
	for _, x := range samples {
		l, _ := lineOf(x.in.Op)
		for k := range l.drawn {
			if l.drawn[k] == '-' {
				one := drawnWord(0, zeros()[:k]+"1"+zeros()[k+1:])
				wantNoInst(t, x.w|one, x.upper, x.in.Ext, x.pc)
			}
		}
	}
}

func TestEachBitOfTheValueFieldWithAnUpperPart(t *testing.T) {
	for _, l := range lines {
		if !l.ext {
			continue
		}
		for bit := range strings.Count(l.drawn, "i") {
			w := drawnWord(l.op, put(l, zeros(), 'i', 1<<bit))
			for _, upper := range []uint32{0, 1, 0xffffff} {
				if bit >= 8 {
					wantNoInst(t, w, upper, true, 0)
				} else if ok := checkInst(t, w, upper, true, 0); ok != (bit >= 2 || !l.target) {
					t.Errorf("Inst(%#08x, %#x, true, 0): %t", w, upper, ok)
				}
			}
			if !checkInst(t, w, 0, false, 0) {
				t.Errorf("Inst(%#08x, 0, false, 0): none", w)
			}
		}
	}
}

func TestUpperPartsAtTheBorder(t *testing.T) {
	for _, l := range lines {
		w := drawnWord(l.op, zeros())
		for _, upper := range []uint32{0, 1, 0x7fffff, 0x800000, 0xfffffe, 0xffffff} {
			want := api.Inst{Op: l.op, Imm: asSigned(int64(upper) * 256), Ext: true}
			if l.target {
				want.Imm = wrapped(want.Imm + 0xfffffffc)
			}
			in, ok := enc.Inst(w, upper, true, 0xfffffffc)
			if l.ext && (in != want || !ok) {
				t.Errorf("Inst(%#08x, %#x, true): %+v, %t, not %+v", w, upper, in, ok, want)
			}
			if !l.ext {
				wantNoInst(t, w, upper, true, 0xfffffffc)
			}
		}
		for _, upper := range []uint32{0x1000000, 0x1000001, 0x1ffffff, 0x80000000, 0xff000000, 0xffffffff} {
			wantNoInst(t, w, upper, true, 0)
		}
	}
}

func TestCodesThatAreNoOp(t *testing.T) {
	for code := range uint32(64) {
		if code >= api.Nop && code <= api.LoopR {
			continue
		}
		for _, rest := range []uint32{0, 1, 0xc000, 0x01a10620, 0x03ff3fff, 0x03ffffff} {
			for _, pc := range pcs {
				wantNoInst(t, code<<26|rest, 0, false, pc)
				wantNoInst(t, code<<26|rest, 0, true, pc)
				wantNoInst(t, code<<26|rest, 0x123456, true, pc)
			}
		}
	}
}

func TestWordsWhoseInstructionWouldNotBeValid(t *testing.T) {
	for _, l := range lines {
		if !strings.Contains(l.drawn, "m") {
			continue
		}
		for mode := range int64(8) {
			for pred := range int64(4) {
				payload := put(l, put(l, zeros(), 'm', mode), 'p', pred)
				valid := mode <= 4 && (mode != 0 || pred == 0)
				if ok := checkInst(t, drawnWord(l.op, payload), 0, false, 0); ok != valid {
					t.Errorf("op %d, mode %d, predicate %d: %t", l.op, mode, pred, ok)
				}
			}
		}
	}
	for pred := range uint32(4) {
		if in, ok := enc.Inst(0x38000000|pred<<19, 0, false, 0); in != (api.Inst{Op: api.Mux, Pred: uint8(pred)}) || !ok {
			t.Errorf("mux with the predicate %d: %+v, %t", pred, in, ok)
		}
	}
}

// Without an upper part another upper is no instruction's, but the call still ends.
func TestUpperThatIsNotPassedAsZero(t *testing.T) {
	for _, x := range samples {
		for _, upper := range []uint32{1, 0xffffff, 0x1000000, 0xffffffff} {
			enc.Inst(x.w, upper, false, x.pc)
		}
	}
}

// P6.3

// mixer is a plain generator of numbers, the same ones each time.
type mixer uint64

func (m *mixer) next() uint32 {
	*m = *m*6364136223846793005 + 1442695040888963407
	return uint32(*m >> 32)
}

// someWord has each op often, and each of its bits.
func someWord(m *mixer) uint32 {
	w := m.next()
	switch m.next() % 4 {
	case 0:
		w &= m.next()
	case 1:
		w &= m.next() & m.next()
	}
	l := lines[m.next()%uint32(len(lines))]
	if m.next()%8 == 0 {
		return w
	}
	return drawnWord(l.op, without(l, spellPayload(w), '-')) | w&0xc000
}

func TestAnyWords(t *testing.T) {
	m := mixer(1)
	decoded := 0
	for range 100000 {
		w, pc := someWord(&m), pcs[m.next()%uint32(len(pcs))]
		if checkInst(t, w, 0, false, pc) {
			decoded++
		}
		l, _ := lineOf(uint8(w >> 26))
		if m.next()%4 != 0 {
			w = drawnWord(uint8(w>>26), put(lineOrNone(l), spellPayload(w), 'i', int64(m.next()%256)))
		}
		if checkInst(t, w, m.next()>>(m.next()%32), true, pc) {
			decoded++
		}
	}
	if decoded < 10000 {
		t.Errorf("too few words are an instruction: %d", decoded)
	}
}

// lineOrNone draws all bits as no field if there is no line.
func lineOrNone(l line) line {
	if l.drawn == "" {
		l.drawn = strings.Repeat("-", 24)
	}
	return l
}

// someInst has members that are in range mostly, also where the op has no field for them.
func someInst(m *mixer) api.Inst {
	at := func(n uint32, usual bool) uint8 {
		if !usual {
			return 0
		}
		if m.next()%64 == 0 {
			return uint8(m.next())
		}
		return uint8(m.next() % n)
	}
	l := lines[m.next()%uint32(len(lines))]
	drawn := func(letter string) bool { return strings.Contains(l.drawn, letter) || m.next()%256 == 0 }
	in := api.Inst{Op: l.op, S: at(32, drawn("s")), T: at(32, drawn("t")), N: at(2, drawn("n")), Mode: at(5, drawn("m")), Pred: at(4, drawn("p"))}
	in.D = at(1<<strings.Count(l.drawn, "d"), drawn("d"))
	in.New, in.Ext = drawn("w") && m.next()%2 == 0, (l.ext || m.next()%64 == 0) && m.next()%2 == 0
	if in.Mode == 0 && l.op != api.Mux {
		in.Pred = 0
	}
	if drawn("c") {
		in.Count = uint16(m.next() % 2050)
	}
	if drawn("i") {
		in.Imm = int64(int32(m.next())) >> (m.next() % 32)
	}
	if drawn("i") && m.next()%2 == 0 {
		in.Imm -= in.Imm % 4
	}
	if l.target {
		in.Imm = wrapped(in.Imm)
	}
	return in
}

func TestAnyInstructions(t *testing.T) {
	m := mixer(2)
	encoded := 0
	for range 150000 {
		if checkWord(t, someInst(&m), pcs[m.next()%uint32(len(pcs))]) {
			encoded++
		}
	}
	if encoded < 25000 {
		t.Errorf("too few instructions have a word: %d", encoded)
	}
}

func TestAnInstructionHasOneWord(t *testing.T) {
	for _, l := range lines {
		first := map[api.Inst]uint32{}
		for low := range uint32(1 << 14) {
			for _, has := range []bool{false, true} {
				w := uint32(l.op)<<26 | low
				in, ok := enc.Inst(w, 0, has, 0x1000)
				if other, twice := first[in]; ok && twice {
					t.Errorf("%+v has two words: %#08x and %#08x", in, other, w)
				}
				if ok {
					first[in] = w
				}
			}
		}
	}
}

// R1, R3: any arguments end, and results do not depend on what was called before.

func TestFarArguments(t *testing.T) {
	for op := range 256 {
		for _, imm := range []int64{0, 1, 255, 1 << 31, -1 << 31, 1 << 32, math.MaxInt64, math.MinInt64} {
			for _, pc := range pcs {
				for _, extended := range []bool{false, true} {
					wantNoWord(t, api.Inst{Op: uint8(op), D: 255, S: 255, T: 255, N: 255, Pred: 255, Mode: 255, New: true, Ext: extended, Count: 65535, Imm: imm}, pc)
					checkWord(t, api.Inst{Op: uint8(op), Imm: imm, Ext: extended}, pc)
				}
			}
		}
	}
}

func TestResultsAreTheSameEachTime(t *testing.T) {
	for range 3 {
		TestExamples(t)
		TestWordOfEachSample(t)
		TestInstOfEachSample(t)
		wantNoWord(t, api.Inst{Op: 200, D: 255, Imm: -1}, 1)
		wantNoInst(t, 0xffffffff, 0xffffffff, true, 0xffffffff)
	}
}
