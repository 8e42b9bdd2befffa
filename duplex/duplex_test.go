package duplex_test

import (
	"math"
	"testing"

	"coxless/api"
	"coxless/duplex"
	"coxless/inst"
	"coxless/sub"
)

// sample is an instruction with its small number, worked out by hand from the table of chapter 7.
type sample struct {
	in api.Inst
	s  uint16
}

// Of each code there are the least number, one in between, and the greatest.
var samples = []sample{
	{api.Inst{Op: api.MovI}, 0x0800},
	{api.Inst{Op: api.MovI, D: 3, Imm: 9}, 0x0989},
	{api.Inst{Op: api.MovI, D: 23, Imm: 127}, 0x0fff},
	{api.Inst{Op: api.AddI}, 0x1000},
	{api.Inst{Op: api.AddI, D: 17, S: 17, Imm: -2}, 0x14fe},
	{api.Inst{Op: api.AddI, D: 23, S: 23, Imm: -1}, 0x17ff},
	{api.Inst{Op: api.Mov}, 0x1800},
	{api.Inst{Op: api.Mov, D: 4, S: 18}, 0x1a50},
	{api.Inst{Op: api.Mov, D: 23, S: 23}, 0x1ff8},
	{api.Inst{Op: api.Add}, 0x2000},
	{api.Inst{Op: api.Add, D: 6, S: 6, T: 21}, 0x2368},
	{api.Inst{Op: api.Add, D: 23, S: 23, T: 23}, 0x27f8},
	{api.Inst{Op: api.LdW}, 0x2800},
	{api.Inst{Op: api.LdW, D: 2, S: 19, Imm: 12}, 0x295b},
	{api.Inst{Op: api.LdW, D: 23, S: 23, Imm: 28}, 0x2fff},
	{api.Inst{Op: api.StW}, 0x3000},
	{api.Inst{Op: api.StW, S: 22, T: 5, Imm: 20}, 0x372d},
	{api.Inst{Op: api.StW, S: 23, T: 23, Imm: 28}, 0x37ff},
	{api.Inst{Op: api.LdB}, 0x3800},
	{api.Inst{Op: api.LdB, D: 1, S: 16, Imm: 4}, 0x38c4},
	{api.Inst{Op: api.LdB, D: 23, S: 23, Imm: 7}, 0x3fff},
	{api.Inst{Op: api.StB}, 0x4000},
	{api.Inst{Op: api.StB, S: 7, T: 20, Imm: 2}, 0x43e2},
	{api.Inst{Op: api.StB, S: 23, T: 23, Imm: 7}, 0x47ff},
	{api.Inst{Op: api.CmpEqI}, 0x4800},
	{api.Inst{Op: api.CmpEqI, S: 16, Imm: 65}, 0x4c41},
	{api.Inst{Op: api.CmpEqI, S: 23, Imm: 127}, 0x4fff},
}

// noNumbers are no small instructions: codes that there are not, and remaining bits that are set.
var noNumbers = []uint16{
	0, 1, 0x0400, 0x07ff, 0x5000, 0x57ff, 0x5800, 0x6000, 0x6800, 0x7000, 0x7800, 0x7fff,
	0x1801, 0x1802, 0x1804, 0x1fff, 0x2001, 0x2002, 0x2004, 0x27ff,
}

// notSmall have no small instruction: valid ones of other ops or beyond the small fields, and ones that are not valid.
var notSmall = []api.Inst{
	{Op: api.Nop}, {Op: api.Sub}, {Op: api.And, D: 1, S: 1, T: 1}, {Op: api.Mux}, {Op: api.Asl}, {Op: api.LdH}, {Op: api.StH}, {Op: api.StH, New: true}, {Op: api.Jump}, {Op: api.Call}, {Op: api.LoopR},
	{Op: api.MovI, D: 8}, {Op: api.MovI, D: 24}, {Op: api.MovI, Imm: 128}, {Op: api.MovI, Imm: -1}, {Op: api.MovI, Mode: api.If}, {Op: api.MovI, Mode: api.NotNew, Pred: 3}, {Op: api.MovI, Ext: true},
	{Op: api.AddI, D: 1, S: 2}, {Op: api.AddI, Imm: 64}, {Op: api.AddI, Imm: -65}, {Op: api.Mov, S: 15}, {Op: api.Add, D: 1}, {Op: api.Add, D: 2, S: 2, T: 31},
	{Op: api.LdW, Imm: 32}, {Op: api.LdW, Imm: -4}, {Op: api.LdB, Imm: 8}, {Op: api.LdB, S: 9},
	{Op: api.StW, New: true}, {Op: api.StW, T: 8}, {Op: api.StW, Imm: 32}, {Op: api.StW, Ext: true}, {Op: api.StB, New: true}, {Op: api.StB, S: 31}, {Op: api.StB, Imm: -1}, {Op: api.StB, Ext: true},
	{Op: api.CmpEqI, D: 1}, {Op: api.CmpEqI, Imm: 128}, {Op: api.CmpEqI, Ext: true},
	{Op: api.MovI, Pred: 1}, {Op: api.MovI, Mode: 5}, {Op: api.MovI, T: 1}, {Op: api.MovI, N: 1}, {Op: api.MovI, Count: 1}, {Op: api.LdW, Imm: 2}, {Op: api.StW, Imm: 2}, {Op: api.StW, D: 1}, {Op: api.StB, Mode: api.If},
	{}, {D: 1}, {Ext: true}, {Op: 32}, {Op: 64 + api.MovI}, {Op: 128 + api.StW}, {Op: 255, D: 255, S: 255, T: 255, N: 255, Pred: 255, Mode: 255, New: true, Ext: true, Count: 65535, Imm: math.MinInt64},
}

func movi(d uint8, v int64) api.Inst {
	return api.Inst{Op: api.MovI, D: d, Imm: v}
}

// place makes a word of two numbers by powers of two, so that the tests share no shift or mask with the program.
func place(high, low uint16, parse uint32) uint32 {
	thirty := uint32(high)*32768 + uint32(low)
	return thirty/16384*65536 + parse*16384 + thirty%16384
}

// apart undoes place.
func apart(w uint32) (high, low uint16, parse uint32) {
	thirty := w/65536*16384 + w%16384
	return uint16(thirty / 32768), uint16(thirty % 32768), w / 16384 % 4
}

// isStore goes by the codes 6 and 8.
func isStore(s uint16) bool {
	return s/2048 == 6 || s/2048 == 8
}

// isCanonical is asked of two small numbers in their places.
func isCanonical(high, low uint16) bool {
	return !isStore(high) && (isStore(low) || high >= low)
}

// wantPaired asks for the duplex with a's number above b's, in whichever order the two are passed.
func wantPaired(t *testing.T, a, b api.Inst, want uint32) {
	t.Helper()
	w, ok := duplex.Pair(a, b)
	v, is := duplex.Pair(b, a)
	if w != want || !ok || v != want || !is {
		t.Errorf("Pair of %+v and %+v: %#08x, %t, and exchanged %#08x, %t, not %#08x", a, b, w, ok, v, is, want)
	}
	if upper, lower, ok := duplex.Split(want); upper != a || lower != b || !ok {
		t.Errorf("Split(%#08x): %+v, %+v, %t, not %+v, %+v", want, upper, lower, ok, a, b)
	}
	if !duplex.Canonical(want) {
		t.Errorf("Canonical(%#08x) is false", want)
	}
}

func wantNotPaired(t *testing.T, a, b api.Inst) {
	t.Helper()
	if w, ok := duplex.Pair(a, b); w != 0 || ok {
		t.Errorf("Pair of %+v and %+v: %#08x, %t", a, b, w, ok)
	}
	if w, ok := duplex.Pair(b, a); w != 0 || ok {
		t.Errorf("Pair of %+v and %+v: %#08x, %t", b, a, w, ok)
	}
}

func wantNoDuplex(t *testing.T, w uint32) {
	t.Helper()
	if upper, lower, ok := duplex.Split(w); upper != (api.Inst{}) || lower != (api.Inst{}) || ok {
		t.Errorf("Split(%#08x): %+v, %+v, %t", w, upper, lower, ok)
	}
	if duplex.Canonical(w) {
		t.Errorf("Canonical(%#08x) is true", w)
	}
}

// checkWord holds all that is said of a word against its two numbers, and tells whether it is a duplex.
func checkWord(t *testing.T, w uint32) bool {
	t.Helper()
	high, low, parse := apart(w)
	a, isA := sub.Inst(high)
	b, isB := sub.Inst(low)
	if parse != 0 || !isA || !isB || isStore(high) {
		wantNoDuplex(t, w)
		return false
	}
	if upper, lower, ok := duplex.Split(w); upper != a || lower != b || !ok {
		t.Errorf("Split(%#08x): %+v, %+v, %t, not %+v, %+v", w, upper, lower, ok, a, b)
	}
	if got := duplex.Canonical(w); got != isCanonical(high, low) {
		t.Errorf("Canonical(%#08x): %t", w, got)
	}
	paired := w
	if !isCanonical(high, low) {
		paired = place(low, high, 0)
	}
	if v, ok := duplex.Pair(a, b); v != paired || !ok {
		t.Errorf("Pair of Split(%#08x): %#08x, %t, not %#08x", w, v, ok, paired)
	}
	if v, ok := duplex.Pair(b, a); v != paired || !ok {
		t.Errorf("Pair of Split(%#08x), exchanged: %#08x, %t, not %#08x", w, v, ok, paired)
	}
	return true
}

func eachTwo(do func(x, y sample)) {
	for _, x := range samples {
		for _, y := range samples {
			do(x, y)
		}
	}
}

// The examples of the chapter

func TestExamples(t *testing.T) {
	wantPaired(t, movi(1, 0), movi(0, 0), 0x11000800)
	wantPaired(t, movi(0, 0), api.Inst{Op: api.StW}, 0x10003000)
	wantNotPaired(t, api.Inst{Op: api.StW}, api.Inst{Op: api.StB})
	if upper, lower, ok := duplex.Split(0x10000880); upper != movi(0, 0) || lower != movi(1, 0) || !ok {
		t.Errorf("Split(0x10000880): %+v, %+v, %t", upper, lower, ok)
	}
	if duplex.Canonical(0x10000880) {
		t.Error("Canonical(0x10000880) is true")
	}
	wantNoDuplex(t, 0x60000800)
	wantNoDuplex(t, 0x11004800)
}

// Words worked out by hand, the fourth example of the whole first

func TestWordsByHand(t *testing.T) {
	greatest, store := api.Inst{Op: api.CmpEqI, S: 23, Imm: 127}, api.Inst{Op: api.StB, S: 23, T: 23, Imm: 7}
	wantPaired(t, movi(2, 6), movi(1, 5), 0x120c0885)
	wantPaired(t, api.Inst{Op: api.AddI, D: 23, S: 23, Imm: -1}, movi(0, 0), 0x2ffe0800)
	wantPaired(t, api.Inst{Op: api.CmpEqI, S: 16, Imm: 65}, api.Inst{Op: api.LdW, D: 2, S: 19, Imm: 12}, 0x9882295b)
	wantPaired(t, api.Inst{Op: api.LdB, D: 1, S: 16, Imm: 4}, api.Inst{Op: api.StW, S: 22, T: 5, Imm: 20}, 0x7188372d)
	wantPaired(t, greatest, store, 0x9fff07ff)
	wantPaired(t, greatest, greatest, 0x9fff0fff)
}

// P8.1 and P8.2 on ordinary inputs

// The samples hold each of the nine codes, so that no pair of codes is left out, and their numbers are right.
func TestTheSamples(t *testing.T) {
	var ofCode [16]int
	for _, x := range samples {
		ofCode[x.s/2048]++
		if s, ok := sub.Of(x.in); s != x.s || !ok {
			t.Errorf("%+v: %#04x, %t, not %#04x", x.in, s, ok, x.s)
		}
	}
	for code, n := range ofCode {
		if (code >= 1 && code <= 9) != (n == 3) {
			t.Errorf("code %d: %d samples", code, n)
		}
	}
}

func TestEachPairOfCodes(t *testing.T) {
	paired, refused := 0, 0
	eachTwo(func(x, y sample) {
		switch {
		case isStore(x.s) && isStore(y.s):
			wantNotPaired(t, x.in, y.in)
			refused++
		case isStore(y.s), !isStore(x.s) && x.s >= y.s:
			wantPaired(t, x.in, y.in, place(x.s, y.s, 0))
			paired++
		default:
			wantPaired(t, y.in, x.in, place(y.s, x.s, 0))
			paired++
		}
	})
	if paired != 27*27-36 || refused != 36 {
		t.Errorf("%d paired, %d refused", paired, refused)
	}
}

// Of the two words of two instructions one is canonical, and Split brings either back.
func TestEachPairHasOneCanonicalDuplex(t *testing.T) {
	eachTwo(func(x, y sample) {
		if isStore(x.s) && isStore(y.s) {
			wantNoDuplex(t, place(x.s, y.s, 0))
			return
		}
		canonical := map[uint32]int{}
		for _, w := range []uint32{place(x.s, y.s, 0), place(y.s, x.s, 0)} {
			checkWord(t, w)
			if duplex.Canonical(w) {
				canonical[w]++
			}
		}
		if len(canonical) != 1 {
			t.Errorf("%+v and %+v have %d canonical duplexes", x.in, y.in, len(canonical))
		}
	})
}

func TestPairOfSplitAndSplitOfPair(t *testing.T) {
	eachTwo(func(x, y sample) {
		w, ok := duplex.Pair(x.in, y.in)
		if !ok {
			return
		}
		a, b, is := duplex.Split(w)
		if !is || !(a == x.in && b == y.in || a == y.in && b == x.in) {
			t.Errorf("Split of Pair of %+v and %+v: %+v, %+v, %t", x.in, y.in, a, b, is)
		}
		if !inst.Right(a) || !inst.Right(b) {
			t.Errorf("Split(%#08x): %+v, %+v, of which one is not valid", w, a, b)
		}
		if v, ok := duplex.Pair(a, b); v != w || !ok {
			t.Errorf("Pair of Split(%#08x): %#08x, %t", w, v, ok)
		}
	})
}

// P8.1 and P8.2 on the edges

func TestTwoEqualOnes(t *testing.T) {
	for _, x := range samples {
		if isStore(x.s) {
			wantNotPaired(t, x.in, x.in)
			wantNoDuplex(t, place(x.s, x.s, 0))
		} else {
			wantPaired(t, x.in, x.in, place(x.s, x.s, 0))
		}
	}
}

func TestNumbersThatDifferByOne(t *testing.T) {
	wantPaired(t, movi(0, 1), movi(0, 0), place(0x0801, 0x0800, 0))
	wantPaired(t, api.Inst{Op: api.AddI}, movi(23, 127), place(0x1000, 0x0fff, 0))
	wantPaired(t, api.Inst{Op: api.LdB, D: 1, Imm: 4}, api.Inst{Op: api.LdB, D: 1, Imm: 3}, place(0x3884, 0x3883, 0))
	for s := range uint16(0x5000) {
		greater, is := sub.Inst(s + 1)
		less, ok := sub.Inst(s)
		if !is || !ok || isStore(s) || isStore(s+1) {
			continue
		}
		wantPaired(t, greater, less, place(s+1, s, 0))
		if duplex.Canonical(place(s, s+1, 0)) {
			t.Errorf("%#04x above %#04x is canonical", s, s+1)
		}
		if upper, lower, ok := duplex.Split(place(s, s+1, 0)); upper != less || lower != greater || !ok {
			t.Errorf("%#04x above %#04x: %+v, %+v, %t", s, s+1, upper, lower, ok)
		}
	}
}

func TestAStoreBesideOneThatIsNone(t *testing.T) {
	for _, x := range []struct {
		other, store api.Inst
		w            uint32
	}{
		{movi(0, 0), api.Inst{Op: api.StW}, place(0x0800, 0x3000, 0)},
		{movi(0, 0), api.Inst{Op: api.StB, S: 23, T: 23, Imm: 7}, place(0x0800, 0x47ff, 0)},
		{api.Inst{Op: api.LdW, D: 23, S: 23, Imm: 28}, api.Inst{Op: api.StW}, place(0x2fff, 0x3000, 0)},
		{api.Inst{Op: api.LdB}, api.Inst{Op: api.StW, S: 23, T: 23, Imm: 28}, place(0x3800, 0x37ff, 0)},
		{api.Inst{Op: api.LdB, D: 23, S: 23, Imm: 7}, api.Inst{Op: api.StB}, place(0x3fff, 0x4000, 0)},
		{api.Inst{Op: api.CmpEqI}, api.Inst{Op: api.StB, S: 23, T: 23, Imm: 7}, place(0x4800, 0x47ff, 0)},
		{api.Inst{Op: api.CmpEqI, S: 23, Imm: 127}, api.Inst{Op: api.StW}, place(0x4fff, 0x3000, 0)},
	} {
		wantPaired(t, x.other, x.store, x.w)
		high, low, _ := apart(x.w)
		wantNoDuplex(t, place(low, high, 0))
	}
}

func TestDuplexesThatAreNotCanonical(t *testing.T) {
	for _, x := range []struct {
		w, exchanged uint32
		upper, lower api.Inst
	}{
		{0x10000880, 0x11000800, movi(0, 0), movi(1, 0)},
		{0x110a0906, 0x120c0885, movi(1, 5), movi(2, 6)},
		{0x10010fff, 0x9ffe0800, movi(0, 0), api.Inst{Op: api.CmpEqI, S: 23, Imm: 127}},
		{0x52b70c41, 0x9882295b, api.Inst{Op: api.LdW, D: 2, S: 19, Imm: 12}, api.Inst{Op: api.CmpEqI, S: 16, Imm: 65}},
	} {
		if upper, lower, ok := duplex.Split(x.w); upper != x.upper || lower != x.lower || !ok {
			t.Errorf("Split(%#08x): %+v, %+v, %t", x.w, upper, lower, ok)
		}
		if duplex.Canonical(x.w) {
			t.Errorf("Canonical(%#08x) is true", x.w)
		}
		wantPaired(t, x.lower, x.upper, x.exchanged)
	}
}

func TestCanonicalWithALowerStoreAndALessUpperOne(t *testing.T) {
	for _, w := range []uint32{0x10003000, 0x10010000, 0x100107ff, 0x5ffe3000, 0x7fff0000, 0x4ff0372d} {
		high, low, _ := apart(w)
		if !isStore(low) || high >= low {
			t.Errorf("%#08x: %#04x above %#04x", w, high, low)
		}
		if !duplex.Canonical(w) || !checkWord(t, w) {
			t.Errorf("%#08x is no canonical duplex", w)
		}
	}
}

// The bits 13 and 16 of a word are the lower number's uppermost two, bit 17 is the upper number's lowest one.
func TestTheBitsBesideTheParseBits(t *testing.T) {
	wantPaired(t, api.Inst{Op: api.Add}, movi(0, 0), 0x40000800)
	wantPaired(t, api.Inst{Op: api.Add}, api.Inst{Op: api.Add}, 0x40002000)
	wantPaired(t, movi(0, 0), api.Inst{Op: api.StB}, 0x10010000)
	wantPaired(t, movi(0, 1), movi(0, 0), 0x10020800)
	if upper, lower, ok := duplex.Split(0x10002000); upper != movi(0, 0) || lower != (api.Inst{Op: api.Add}) || !ok || duplex.Canonical(0x10002000) {
		t.Errorf("Split(0x10002000): %+v, %+v, %t", upper, lower, ok)
	}
	wantNoDuplex(t, 0x10004000)
	wantNoDuplex(t, 0x10008000)
	for bit := uint32(1); bit != 0; bit *= 2 {
		wantNoDuplex(t, bit)
		for _, w := range []uint32{0x10000000, 0x10000800, 0x11000800, 0x10003000, 0x9fff0fff} {
			checkWord(t, w^bit)
		}
	}
}

// P8.1 on wrong inputs

func TestTwoStores(t *testing.T) {
	stores := 0
	eachTwo(func(x, y sample) {
		if !isStore(x.s) || !isStore(y.s) {
			return
		}
		stores++
		wantNotPaired(t, x.in, y.in)
		for parse := range uint32(4) {
			wantNoDuplex(t, place(x.s, y.s, parse))
		}
	})
	if stores != 36 {
		t.Errorf("%d pairs of stores", stores)
	}
}

func TestInstructionsWithoutASmallOne(t *testing.T) {
	for _, in := range notSmall {
		if _, ok := sub.Of(in); ok {
			t.Errorf("%+v is small", in)
		}
		for _, x := range samples {
			wantNotPaired(t, in, x.in)
		}
		for _, other := range notSmall {
			wantNotPaired(t, in, other)
		}
	}
}

func TestTheZeroInstruction(t *testing.T) {
	wantNotPaired(t, api.Inst{}, api.Inst{})
	wantNotPaired(t, api.Inst{}, movi(0, 0))
	wantNotPaired(t, api.Inst{}, api.Inst{Op: api.StW})
}

func TestOtherParseBits(t *testing.T) {
	eachTwo(func(x, y sample) {
		for parse := uint32(1); parse < 4; parse++ {
			wantNoDuplex(t, place(x.s, y.s, parse))
		}
	})
	for _, w := range []uint32{0x11004800, 0x11008800, 0x1100c800, 0x10007000, 0x1000b000, 0x1000f000} {
		wantNoDuplex(t, w)
	}
}

func TestHalvesThatAreNotSmall(t *testing.T) {
	for _, s := range noNumbers {
		if _, ok := sub.Inst(s); ok {
			t.Errorf("%#04x is a small instruction", s)
		}
		for parse := range uint32(4) {
			for _, x := range samples {
				wantNoDuplex(t, place(s, x.s, parse))
				wantNoDuplex(t, place(x.s, s, parse))
			}
			for _, other := range noNumbers {
				wantNoDuplex(t, place(s, other, parse))
			}
		}
	}
}

func TestAStoreInTheUpperPosition(t *testing.T) {
	tried := 0
	eachTwo(func(x, y sample) {
		if isStore(x.s) {
			tried++
			wantNoDuplex(t, place(x.s, y.s, 0))
		}
	})
	if tried != 6*27 {
		t.Errorf("%d words with a store in the upper position", tried)
	}
}

func TestTheLeastAndTheGreatestWord(t *testing.T) {
	for _, w := range []uint32{0, 1, math.MaxInt32, math.MaxInt32 + 1, math.MaxUint32 - 1, math.MaxUint32, 0xffff3fff, 0x0000c000} {
		wantNoDuplex(t, w)
	}
}

// P8.1 and P8.2 on many inputs

func TestEachNumberInEachPosition(t *testing.T) {
	partners := []uint16{0, 0x0800, 0x0fff, 0x1801, 0x2368, 0x3000, 0x38c4, 0x47ff, 0x4fff, 0x7fff}
	duplexes := 0
	for s := range uint16(0x8000) {
		for _, other := range partners {
			for _, w := range []uint32{place(s, other, 0), place(other, s, 0)} {
				if checkWord(t, w) {
					duplexes++
				}
			}
		}
	}
	// 14848 numbers are small ones, and of these 4096 are stores; of the partners seven are small, and two of these are stores.
	if want := (14848-4096)*7 + 14848*5; duplexes != want {
		t.Errorf("%d words are duplexes, not %d", duplexes, want)
	}
}

// mixer is a plain generator of numbers, the same ones each time.
type mixer uint64

func (m *mixer) next() uint32 {
	*m = *m*6364136223846793005 + 1442695040888963407
	return uint32(*m >> 32)
}

func TestAnyWords(t *testing.T) {
	m := mixer(8)
	duplexes := 0
	for range 100000 {
		checkWord(t, m.next())
		if checkWord(t, place(uint16(m.next()%0x5000), uint16(m.next()%0x5000), 0)) {
			duplexes++
		}
	}
	if duplexes < 20000 || duplexes > 60000 {
		t.Errorf("%d words are duplexes", duplexes)
	}
}

// someInst is a small instruction, in some cases with a member changed so that it may be none.
func someInst(m *mixer) api.Inst {
	in := samples[m.next()%uint32(len(samples))].in
	switch m.next() % 12 {
	case 0:
		in.Op = uint8(m.next() % 33)
	case 1:
		in.S = uint8(m.next() % 33)
	case 2:
		in.Imm = int64(int32(m.next())) >> (m.next() % 32)
	case 3:
		in.Mode = uint8(m.next() % 6)
	case 4:
		in.New = true
	case 5:
		in.Ext = true
	}
	return in
}

func TestAnyInstructions(t *testing.T) {
	m := mixer(88)
	paired := 0
	for range 100000 {
		a, b := someInst(&m), someInst(&m)
		high, isA := sub.Of(a)
		low, isB := sub.Of(b)
		switch {
		case !isA || !isB || isStore(high) && isStore(low):
			wantNotPaired(t, a, b)
			continue
		case isCanonical(high, low):
			wantPaired(t, a, b, place(high, low, 0))
		default:
			wantPaired(t, b, a, place(low, high, 0))
		}
		paired++
	}
	if paired < 20000 || paired > 80000 {
		t.Errorf("%d pairs form duplexes", paired)
	}
}

// R1, R3: any arguments end, and results do not depend on what was called before.

func TestFarArguments(t *testing.T) {
	for op := range 256 {
		for _, imm := range []int64{0, 1, 127, 255, 1 << 31, -1 << 31, 1 << 32, math.MaxInt64, math.MinInt64} {
			far := api.Inst{Op: uint8(op), D: 255, S: 255, T: 255, N: 255, Pred: 255, Mode: 255, New: true, Ext: true, Count: 65535, Imm: imm}
			wantNotPaired(t, far, far)
			wantNotPaired(t, far, movi(0, 0))
			wantNotPaired(t, far, api.Inst{Op: api.StB})
		}
	}
}

func TestResultsAreTheSameEachTime(t *testing.T) {
	for range 3 {
		TestExamples(t)
		TestEachPairOfCodes(t)
		wantNotPaired(t, api.Inst{Op: 200, D: 255, Imm: -1}, movi(0, 0))
		wantNoDuplex(t, 0xffffffff)
	}
}
