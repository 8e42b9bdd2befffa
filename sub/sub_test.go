package sub_test

import (
	"math"
	"strings"
	"testing"

	"coxless/api"
	"coxless/inst"
	"coxless/sub"
)

// line is a kind of small instruction drawn bit by bit from the top: 0 and 1 for bit 15 and the code, d D, s S, t T, x for D and S in one, i the value, and - for what remains; then the value's least and greatest number and its step.
type line struct {
	op          uint8
	drawn       string
	least, most int64
	step        int64
}

var lines = []line{
	{api.MovI, "00001ddddiiiiiii", 0, 127, 1},
	{api.AddI, "00010xxxxiiiiiii", -64, 63, 1},
	{op: api.Mov, drawn: "00011ddddssss---"},
	{op: api.Add, drawn: "00100xxxxtttt---"},
	{api.LdW, "00101ddddssssiii", 0, 28, 4},
	{api.StW, "00110ssssttttiii", 0, 28, 4},
	{api.LdB, "00111ddddssssiii", 0, 7, 1},
	{api.StB, "01000ssssttttiii", 0, 7, 1},
	{api.CmpEqI, "01001ssssiiiiiii", 0, 127, 1},
}

// smallRegisters are what the sixteen numbers of a small register denote.
var smallRegisters = [16]uint8{0, 1, 2, 3, 4, 5, 6, 7, 16, 17, 18, 19, 20, 21, 22, 23}

// sample is an instruction with its number, worked out by hand from the chapter's table.
type sample struct {
	in api.Inst
	s  uint16
}

var samples = []sample{
	{api.Inst{Op: api.MovI}, 0x0800},
	{api.Inst{Op: api.MovI, D: 1}, 0x0880},
	{api.Inst{Op: api.MovI, D: 5, Imm: 42}, 0x0aaa},
	{api.Inst{Op: api.MovI, D: 7, Imm: 1}, 0x0b81},
	{api.Inst{Op: api.MovI, D: 23, Imm: 127}, 0x0fff},
	{api.Inst{Op: api.AddI}, 0x1000},
	{api.Inst{Op: api.AddI, D: 3, S: 3, Imm: 63}, 0x11bf},
	{api.Inst{Op: api.AddI, D: 3, S: 3, Imm: -64}, 0x11c0},
	{api.Inst{Op: api.AddI, D: 16, S: 16, Imm: 5}, 0x1405},
	{api.Inst{Op: api.AddI, D: 23, S: 23, Imm: -1}, 0x17ff},
	{api.Inst{Op: api.Mov}, 0x1800},
	{api.Inst{Op: api.Mov, D: 1, S: 2}, 0x1890},
	{api.Inst{Op: api.Mov, D: 2, S: 1}, 0x1908},
	{api.Inst{Op: api.Mov, D: 23, S: 16}, 0x1fc0},
	{api.Inst{Op: api.Mov, D: 7, S: 23}, 0x1bf8},
	{api.Inst{Op: api.Add}, 0x2000},
	{api.Inst{Op: api.Add, D: 1, S: 1, T: 2}, 0x2090},
	{api.Inst{Op: api.Add, D: 2, S: 2, T: 1}, 0x2108},
	{api.Inst{Op: api.Add, D: 20, S: 20, T: 20}, 0x2660},
	{api.Inst{Op: api.Add, D: 23, S: 23, T: 7}, 0x27b8},
	{api.Inst{Op: api.LdW}, 0x2800},
	{api.Inst{Op: api.LdW, D: 1, S: 2, Imm: 4}, 0x2891},
	{api.Inst{Op: api.LdW, D: 16, S: 7, Imm: 24}, 0x2c3e},
	{api.Inst{Op: api.StW}, 0x3000},
	{api.Inst{Op: api.StW, S: 1, T: 2, Imm: 4}, 0x3091},
	{api.Inst{Op: api.StW, S: 23, T: 16, Imm: 28}, 0x37c7},
	{api.Inst{Op: api.LdB}, 0x3800},
	{api.Inst{Op: api.LdB, D: 1, S: 2, Imm: 7}, 0x3897},
	{api.Inst{Op: api.LdB, D: 23, S: 23, Imm: 1}, 0x3ff9},
	{api.Inst{Op: api.StB}, 0x4000},
	{api.Inst{Op: api.StB, S: 2, T: 1, Imm: 3}, 0x410b},
	{api.Inst{Op: api.StB, S: 16, T: 7, Imm: 6}, 0x443e},
	{api.Inst{Op: api.CmpEqI}, 0x4800},
	{api.Inst{Op: api.CmpEqI, S: 1, Imm: 1}, 0x4881},
	{api.Inst{Op: api.CmpEqI, S: 23, Imm: 127}, 0x4fff},
}

func (l line) has(letter string) bool {
	return strings.Contains(l.drawn, letter)
}

// spell writes the sixteen bits out by halving, so that the tests share no shift or mask with the program.
func spell(s uint16) string {
	spelt := ""
	for range 16 {
		spelt = string(rune('0'+s%2)) + spelt
		s /= 2
	}
	return spelt
}

func number(spelt string) uint16 {
	s := uint16(0)
	for _, digit := range spelt {
		s = s*2 + uint16(digit-'0')
	}
	return s
}

// base has the line's code and 0 in every other bit.
func (l line) base() string {
	spelt := ""
	for _, letter := range l.drawn {
		if letter == '1' {
			spelt += "1"
		} else {
			spelt += "0"
		}
	}
	return spelt
}

// put writes the lowest bits of v on those that the line draws with the letter.
func (l line) put(spelt string, letter byte, v int64) string {
	left := []byte(spelt)
	for k := len(left) - 1; k >= 0; k-- {
		if l.drawn[k] == letter {
			left[k] = '0' + byte(v&1)
			v >>= 1
		}
	}
	return string(left)
}

func (l line) get(spelt string, letter byte) int64 {
	v := int64(0)
	for k := range spelt {
		if l.drawn[k] == letter {
			v = v*2 + int64(spelt[k]-'0')
		}
	}
	return v
}

func (l line) register(spelt string, letter byte) uint8 {
	if !l.has(string(rune(letter))) {
		return 0
	}
	return smallRegisters[l.get(spelt, letter)]
}

// lineOf finds the line by bit 15 and the code.
func lineOf(spelt string) (line, bool) {
	for _, l := range lines {
		if l.drawn[:5] == spelt[:5] {
			return l, true
		}
	}
	return line{}, false
}

// wantInst works out what a number says from what the lines draw.
func wantInst(s uint16) (api.Inst, bool) {
	spelt := spell(s)
	l, is := lineOf(spelt)
	if !is || l.get(spelt, '-') != 0 {
		return api.Inst{}, false
	}
	in := api.Inst{Op: l.op, D: l.register(spelt, 'd'), S: l.register(spelt, 's'), T: l.register(spelt, 't')}
	if l.has("x") {
		in.D, in.S = l.register(spelt, 'x'), l.register(spelt, 'x')
	}
	in.Imm = l.get(spelt, 'i') * l.step
	if in.Imm > l.most {
		in.Imm -= l.most - l.least + l.step
	}
	return in, true
}

// wanted holds each instruction that has a number.
func wanted() map[api.Inst]uint16 {
	all := map[api.Inst]uint16{}
	for s := range 1 << 16 {
		if in, ok := wantInst(uint16(s)); ok {
			all[in] = uint16(s)
		}
	}
	return all
}

func wantBoth(t *testing.T, in api.Inst, s uint16) {
	t.Helper()
	if got, ok := sub.Of(in); got != s || !ok {
		t.Errorf("Of(%+v): %#04x, %t, not %#04x", in, got, ok, s)
	}
	if got, ok := sub.Inst(s); got != in || !ok {
		t.Errorf("Inst(%#04x): %+v, %t, not %+v", s, got, ok, in)
	}
}

func wantNone(t *testing.T, in api.Inst) {
	t.Helper()
	if s, ok := sub.Of(in); s != 0 || ok {
		t.Errorf("Of(%+v): %#04x, %t", in, s, ok)
	}
}

func wantNoInst(t *testing.T, s uint16) {
	t.Helper()
	if in, ok := sub.Inst(s); in != (api.Inst{}) || ok {
		t.Errorf("Inst(%#04x): %+v, %t", s, in, ok)
	}
}

// instOf is an instruction of the line with the register r1 in each of its fields and the value v.
func instOf(l line, v int64) api.Inst {
	in := api.Inst{Op: l.op, Imm: v}
	if l.has("d") || l.has("x") {
		in.D = 1
	}
	if l.has("s") || l.has("x") {
		in.S = 1
	}
	if l.has("t") {
		in.T = 1
	}
	return in
}

// withRegister sets what the letter draws.
func withRegister(in api.Inst, letter byte, reg uint8) api.Inst {
	switch letter {
	case 'd':
		in.D = reg
	case 's':
		in.S = reg
	case 't':
		in.T = reg
	case 'x':
		in.D, in.S = reg, reg
	}
	return in
}

// eachRegisterField gives the lines with each letter of theirs that draws a register.
func eachRegisterField(do func(l line, letter byte)) {
	for _, l := range lines {
		for _, letter := range []byte("dstx") {
			if l.has(string(rune(letter))) {
				do(l, letter)
			}
		}
	}
}

// The examples of the chapter

func TestExamples(t *testing.T) {
	if s, ok := sub.Of(api.Inst{Op: api.MovI, D: 16, Imm: 127}); s != 0x0c7f || !ok {
		t.Errorf("movi, D 16, Imm 127: %#04x, %t", s, ok)
	}
	if s, ok := sub.Of(api.Inst{Op: api.AddI, D: 3, S: 3, Imm: -1}); s != 0x11ff || !ok {
		t.Errorf("addi, D 3, S 3, Imm -1: %#04x, %t", s, ok)
	}
	wantNone(t, api.Inst{Op: api.AddI, D: 3, S: 4, Imm: -1})
	if s, ok := sub.Of(api.Inst{Op: api.LdW, D: 7, S: 23, Imm: 28}); s != 0x2bff || !ok {
		t.Errorf("ldw, D 7, S 23, Imm 28: %#04x, %t", s, ok)
	}
	wantNone(t, api.Inst{Op: api.LdW, D: 7, S: 23, Imm: 32})
	wantNone(t, api.Inst{Op: api.LdW, D: 7, S: 8, Imm: 28})
	if in, ok := sub.Inst(0x4881); in != (api.Inst{Op: api.CmpEqI, S: 1, Imm: 1}) || !ok {
		t.Errorf("0x4881: %+v, %t", in, ok)
	}
	wantNoInst(t, 0)
	wantNoInst(t, 0x1801)
}

// P7.1 on ordinary inputs

func TestOfAndInstOfEachSample(t *testing.T) {
	for _, x := range samples {
		wantBoth(t, x.in, x.s)
	}
}

// The samples and the lines hold each of the nine codes, so that none is left out.
func TestEachCodeIsTried(t *testing.T) {
	var sampled, drawn [32]int
	for _, x := range samples {
		sampled[x.s/2048]++
	}
	for _, l := range lines {
		drawn[number(l.base())/2048]++
	}
	for code := range 32 {
		is := code >= 1 && code <= 9
		if (sampled[code] >= 3) != is || (drawn[code] == 1) != is {
			t.Errorf("code %d: sampled %d times, drawn %d times", code, sampled[code], drawn[code])
		}
	}
}

func TestEachSmallRegisterInEachField(t *testing.T) {
	eachRegisterField(func(l line, letter byte) {
		for small, reg := range smallRegisters {
			in := withRegister(instOf(l, l.most), letter, reg)
			spelt := l.base()
			for _, other := range []byte("dstx") {
				spelt = l.put(spelt, other, 1)
			}
			spelt = l.put(spelt, letter, int64(small))
			if l.step != 0 {
				spelt = l.put(spelt, 'i', l.most/l.step)
			}
			wantBoth(t, in, number(spelt))
		}
	})
}

func TestTheBordersOfTheSmallRegisters(t *testing.T) {
	for _, x := range []struct {
		in api.Inst
		s  uint16
	}{
		{api.Inst{Op: api.Mov, D: 0, S: 7}, 0x1838}, {api.Inst{Op: api.Mov, D: 7, S: 0}, 0x1b80},
		{api.Inst{Op: api.Mov, D: 7, S: 16}, 0x1bc0}, {api.Inst{Op: api.Mov, D: 16, S: 7}, 0x1c38},
		{api.Inst{Op: api.Mov, D: 16, S: 23}, 0x1c78}, {api.Inst{Op: api.Mov, D: 23, S: 23}, 0x1ff8},
	} {
		wantBoth(t, x.in, x.s)
	}
	for _, reg := range []uint8{8, 15, 24} {
		wantNone(t, api.Inst{Op: api.Mov, D: reg})
		wantNone(t, api.Inst{Op: api.Mov, S: reg})
		wantNone(t, api.Inst{Op: api.Add, T: reg})
		wantNone(t, api.Inst{Op: api.Add, D: reg, S: reg})
	}
}

func TestRegistersThatAreNotSmall(t *testing.T) {
	eachRegisterField(func(l line, letter byte) {
		for reg := range 256 {
			if reg <= 7 || reg >= 16 && reg <= 23 {
				continue
			}
			for _, v := range []int64{0, l.least, l.most} {
				wantNone(t, withRegister(instOf(l, v), letter, uint8(reg)))
			}
		}
	})
}

// The values

func TestValuesThatFit(t *testing.T) {
	for _, l := range lines {
		if l.step == 0 {
			continue
		}
		count := 0
		for v := l.least; v <= l.most; v += l.step {
			spelt := l.base()
			for _, letter := range []byte("dstx") {
				spelt = l.put(spelt, letter, 1)
			}
			wantBoth(t, instOf(l, v), number(l.put(spelt, 'i', v/l.step)))
			count++
		}
		if count != 1<<strings.Count(l.drawn, "i") {
			t.Errorf("op %d: %d values", l.op, count)
		}
	}
}

func TestValuesThatDoNotFit(t *testing.T) {
	for _, l := range lines {
		far := []int64{
			l.least - 1, l.least - l.step - 1, l.least - 4, l.most + 1, l.most + 2, l.most + 4, l.most + l.step + 1, 2*l.most + 1, 2*l.most + 4,
			-128, 128, 255, 256, 8191, -8192, 8192, 65536, 1 << 24, 1<<31 - 1, 1 << 31, -1 << 31, 1 << 32, 1<<32 + 4, -1 << 32, 1 << 62, math.MaxInt64, math.MinInt64,
		}
		for _, v := range far {
			wantNone(t, instOf(l, v))
			wantNone(t, api.Inst{Op: l.op, Imm: v})
		}
	}
}

func TestValuesThatTheScaleDoesNotDivide(t *testing.T) {
	for _, l := range lines {
		if l.step != 4 {
			continue
		}
		for v := l.least - 9; v <= l.most+9; v++ {
			if v%4 != 0 {
				wantNone(t, instOf(l, v))
			}
		}
	}
}

func TestOpsWithoutAValue(t *testing.T) {
	for _, l := range lines {
		if l.step == 0 {
			for v := int64(-9); v <= 9; v++ {
				if v != 0 {
					wantNone(t, instOf(l, v))
				}
			}
		}
	}
}

// P7.1: which instructions have no small one

func TestOtherOps(t *testing.T) {
	all := wanted()
	for op := range 256 {
		one := api.Inst{Op: uint8(op)}
		if _, ok := all[one]; ok {
			continue
		}
		for _, in := range []api.Inst{
			one, {Op: uint8(op), D: 1}, {Op: uint8(op), S: 1}, {Op: uint8(op), D: 1, S: 1}, {Op: uint8(op), D: 1, S: 2, T: 3}, {Op: uint8(op), D: 1, S: 1, T: 2},
			{Op: uint8(op), Imm: 4}, {Op: uint8(op), S: 1, Imm: 4}, {Op: uint8(op), D: 1, S: 1, Imm: 4}, {Op: uint8(op), S: 1, T: 1, Imm: 4}, {Op: uint8(op), N: 1, Imm: 4, Count: 1},
		} {
			wantNone(t, in)
		}
	}
	for _, in := range []api.Inst{
		{Op: api.Nop}, {Op: api.Sub, D: 1, S: 1, T: 2}, {Op: api.And}, {Op: api.Or}, {Op: api.Xor}, {Op: api.CmpEq}, {Op: api.CmpGt}, {Op: api.CmpGtu}, {Op: api.Mux}, {Op: api.Asl}, {Op: api.Lsr},
		{Op: api.Asr}, {Op: api.Mpy}, {Op: api.Cmpy}, {Op: api.CmpyC}, {Op: api.LdH}, {Op: api.StH}, {Op: api.Jump}, {Op: api.JumpR}, {Op: api.Call}, {Op: api.LoopI}, {Op: api.LoopR},
	} {
		if !inst.Right(in) {
			t.Errorf("%+v is not valid", in)
		}
		wantNone(t, in)
	}
}

func TestConditionsNewAndExt(t *testing.T) {
	for _, x := range samples {
		for mode := range uint8(6) {
			for pred := range uint8(5) {
				in := x.in
				in.Mode, in.Pred = mode, pred
				if mode != 0 || pred != 0 {
					wantNone(t, in)
				}
			}
		}
		fresh, extended := x.in, x.in
		fresh.New, extended.Ext = true, true
		wantNone(t, fresh)
		wantNone(t, extended)
	}
	for _, in := range []api.Inst{
		{Op: api.MovI, Mode: api.If, Pred: 1}, {Op: api.MovI, Mode: api.NotNew}, {Op: api.Mov, Mode: api.IfNot, Pred: 3}, {Op: api.Add, Mode: api.IfNew}, {Op: api.StW, New: true}, {Op: api.StB, New: true},
		{Op: api.MovI, Ext: true}, {Op: api.AddI, Ext: true}, {Op: api.LdW, Ext: true}, {Op: api.LdB, Ext: true}, {Op: api.StW, Ext: true}, {Op: api.StB, Ext: true}, {Op: api.CmpEqI, Ext: true},
	} {
		if !inst.Right(in) {
			t.Errorf("%+v is not valid", in)
		}
		wantNone(t, in)
	}
}

func TestMembersForWhichThereIsNoField(t *testing.T) {
	for _, x := range samples {
		for _, v := range []uint8{1, 2, 31, 32, 128, 255} {
			loop, count := x.in, x.in
			loop.N, count.Count = v, uint16(v)
			wantNone(t, loop)
			wantNone(t, count)
		}
		count := x.in
		count.Count = 256
		wantNone(t, count)
		count.Count = 65535
		wantNone(t, count)
	}
	for _, v := range []uint8{1, 7, 8, 16, 32, 64, 128, 255} {
		wantNone(t, api.Inst{Op: api.MovI, S: v})
		wantNone(t, api.Inst{Op: api.MovI, T: v})
		wantNone(t, api.Inst{Op: api.AddI, T: v})
		wantNone(t, api.Inst{Op: api.Mov, T: v})
		wantNone(t, api.Inst{Op: api.LdW, T: v})
		wantNone(t, api.Inst{Op: api.LdB, T: v})
		wantNone(t, api.Inst{Op: api.StW, D: v})
		wantNone(t, api.Inst{Op: api.StB, D: v})
		wantNone(t, api.Inst{Op: api.CmpEqI, T: v})
	}
}

func TestDestinationsThatAreNotTheSource(t *testing.T) {
	for d := range uint8(32) {
		for s := range uint8(32) {
			if d == s {
				continue
			}
			wantNone(t, api.Inst{Op: api.AddI, D: d, S: s})
			wantNone(t, api.Inst{Op: api.AddI, D: d, S: s, Imm: -1})
			wantNone(t, api.Inst{Op: api.Add, D: d, S: s})
			wantNone(t, api.Inst{Op: api.Add, D: d, S: s, T: d})
			wantNone(t, api.Inst{Op: api.Add, D: d, S: s, T: s})
		}
	}
}

func TestComparisonsOfOtherPredicates(t *testing.T) {
	for d := 1; d < 256; d++ {
		for _, reg := range []uint8{0, 1, 23} {
			wantNone(t, api.Inst{Op: api.CmpEqI, D: uint8(d), S: reg})
			wantNone(t, api.Inst{Op: api.CmpEqI, D: uint8(d), S: reg, Imm: 127})
		}
	}
}

func TestInstructionsThatAreNotValid(t *testing.T) {
	for _, in := range []api.Inst{
		{}, {D: 1}, {Imm: 1}, {Op: 32}, {Op: 64 + api.MovI}, {Op: 128 + api.Mov}, {Op: 255}, {Ext: true}, {New: true},
		{Op: api.MovI, D: 32}, {Op: api.MovI, D: 255}, {Op: api.MovI, Mode: 5}, {Op: api.MovI, Mode: 8}, {Op: api.MovI, Pred: 1}, {Op: api.MovI, Mode: 1, Pred: 4}, {Op: api.MovI, New: true}, {Op: api.MovI, Imm: 8192}, {Op: api.MovI, Imm: 1 << 31, Ext: true},
		{Op: api.AddI, Mode: 1}, {Op: api.AddI, D: 32, S: 32}, {Op: api.AddI, Imm: -8193}, {Op: api.AddI, Pred: 1}, {Op: api.Mov, Imm: 1}, {Op: api.Mov, Ext: true}, {Op: api.Mov, New: true}, {Op: api.Add, Imm: 8}, {Op: api.Add, Ext: true}, {Op: api.Add, D: 64, S: 64}, {Op: api.Add, Pred: 3},
		{Op: api.LdW, Imm: 6}, {Op: api.LdW, Mode: 1}, {Op: api.LdW, New: true}, {Op: api.LdB, Imm: 2048}, {Op: api.StW, Imm: 2}, {Op: api.StW, D: 1}, {Op: api.StB, T: 32}, {Op: api.CmpEqI, D: 4}, {Op: api.CmpEqI, Mode: 2}, {Op: api.CmpEqI, S: 32},
	} {
		if inst.Right(in) {
			t.Errorf("%+v is valid", in)
		}
		wantNone(t, in)
	}
}

// P7.1: which numbers are no small instruction

func TestCodesThatThereAreNot(t *testing.T) {
	for code := range uint16(16) {
		if code >= 1 && code <= 9 {
			continue
		}
		for rest := range uint16(2048) {
			wantNoInst(t, code*2048+rest)
		}
	}
}

func TestBit15(t *testing.T) {
	for _, x := range samples {
		wantNoInst(t, 0x8000+x.s)
	}
	for low := range uint16(0x8000) {
		wantNoInst(t, 0x8000+low)
	}
}

func TestEachRemainingBitAlone(t *testing.T) {
	remaining := 0
	for _, x := range samples {
		spelt := spell(x.s)
		l, _ := lineOf(spelt)
		for k := range spelt {
			if l.drawn[k] == '-' {
				wantNoInst(t, number(spelt[:k]+"1"+spelt[k+1:]))
				remaining++
			}
		}
	}
	for _, s := range []uint16{0x1801, 0x1802, 0x1804, 0x1807, 0x2001, 0x2002, 0x2004, 0x2007} {
		wantNoInst(t, s)
	}
	if remaining < 6 {
		t.Errorf("too few remaining bits: %d", remaining)
	}
}

// P7.2

func TestAllNumbers(t *testing.T) {
	decoded := 0
	for k := range 1 << 16 {
		s := uint16(k)
		want, is := wantInst(s)
		in, ok := sub.Inst(s)
		if in != want || ok != is {
			t.Errorf("Inst(%#04x): %+v, %t, not %+v, %t", s, in, ok, want, is)
		}
		if !ok {
			continue
		}
		decoded++
		if back, is := sub.Of(in); back != s || !is {
			t.Errorf("Of of Inst(%#04x): %#04x, %t", s, back, is)
		}
		if !inst.Right(in) {
			t.Errorf("Inst(%#04x): %+v, which is not valid", s, in)
		}
	}
	if decoded != 7*2048+2*256 {
		t.Errorf("%d numbers are small instructions", decoded)
	}
}

func TestAnInstructionHasOneNumber(t *testing.T) {
	first := map[api.Inst]uint16{}
	for k := range 1 << 16 {
		in, ok := sub.Inst(uint16(k))
		if !ok {
			continue
		}
		if other, twice := first[in]; twice {
			t.Errorf("%+v has two numbers: %#04x and %#04x", in, other, k)
		}
		first[in] = uint16(k)
	}
}

// checkOf holds Of against the numbers that the lines draw, and tells whether there is one.
func checkOf(t *testing.T, all map[api.Inst]uint16, in api.Inst) bool {
	t.Helper()
	want, is := all[in]
	s, ok := sub.Of(in)
	if s != want || ok != is {
		t.Errorf("Of(%+v): %#04x, %t, not %#04x, %t", in, s, ok, want, is)
	}
	if !ok {
		return false
	}
	if back, is := sub.Inst(s); back != in || !is {
		t.Errorf("Inst of Of(%+v): %+v, %t", in, back, is)
	}
	return true
}

func TestManyInstructions(t *testing.T) {
	all := wanted()
	regs := []uint8{0, 1, 7, 8, 15, 16, 23, 24, 31, 32}
	values := []int64{-65, -64, -4, -1, 0, 1, 2, 4, 6, 7, 8, 28, 29, 32, 63, 64, 127, 128}
	encoded := 0
	for op := range uint8(33) {
		for _, d := range regs {
			for _, s := range regs {
				for _, r := range regs {
					for _, v := range values {
						if checkOf(t, all, api.Inst{Op: op, D: d, S: s, T: r, Imm: v}) {
							encoded++
						}
					}
				}
			}
		}
	}
	if encoded < 500 {
		t.Errorf("too few instructions are small: %d", encoded)
	}
}

// mixer is a plain generator of numbers, the same ones each time.
type mixer uint64

func (m *mixer) next() uint32 {
	*m = *m*6364136223846793005 + 1442695040888963407
	return uint32(*m >> 32)
}

// someInst is a small instruction, in half of the cases with a member changed.
func someInst(m *mixer) api.Inst {
	in, _ := wantInst(uint16(m.next()) % 0x5000)
	if m.next()%2 == 0 {
		return in
	}
	v := uint8(m.next() >> (m.next() % 8))
	switch m.next() % 11 {
	case 0:
		in.Op = v
	case 1:
		in.D = v
	case 2:
		in.S = v
	case 3:
		in.T = v
	case 4:
		in.N = v
	case 5:
		in.Pred = v
	case 6:
		in.Mode = v
	case 7:
		in.New = !in.New
	case 8:
		in.Ext = !in.Ext
	case 9:
		in.Count = uint16(v)
	case 10:
		in.Imm = int64(int32(m.next())) >> (m.next() % 32)
	}
	return in
}

func TestAnyInstructions(t *testing.T) {
	all := wanted()
	m := mixer(7)
	encoded := 0
	for range 100000 {
		if checkOf(t, all, someInst(&m)) {
			encoded++
		}
	}
	if encoded < 30000 || encoded > 80000 {
		t.Errorf("%d instructions are small", encoded)
	}
}

// R1, R3: any arguments end, and results do not depend on what was called before.

func TestFarArguments(t *testing.T) {
	for op := range 256 {
		for _, imm := range []int64{0, 1, 127, 255, 1 << 31, -1 << 31, 1 << 32, math.MaxInt64, math.MinInt64} {
			wantNone(t, api.Inst{Op: uint8(op), D: 255, S: 255, T: 255, N: 255, Pred: 255, Mode: 255, New: true, Ext: true, Count: 65535, Imm: imm})
			wantNone(t, api.Inst{Op: uint8(op), D: 255, S: 255, T: 255, Imm: imm})
		}
	}
}

func TestResultsAreTheSameEachTime(t *testing.T) {
	for range 3 {
		TestExamples(t)
		TestOfAndInstOfEachSample(t)
		wantNone(t, api.Inst{Op: 200, D: 255, Imm: -1})
		wantNoInst(t, 0xffff)
	}
}
