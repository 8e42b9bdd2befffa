package pack_test

import (
	"math"
	"slices"
	"testing"

	"coxless/api"
	"coxless/arrange"
	"coxless/legal"
	"coxless/pack"
)

func nop() api.Inst                       { return api.Inst{Op: api.Nop} }
func movi(d uint8, v int64) api.Inst      { return api.Inst{Op: api.MovI, D: d, Imm: v} }
func far(d uint8, v int64) api.Inst       { return api.Inst{Op: api.MovI, D: d, Imm: v, Ext: true} }
func add(d uint8) api.Inst                { return api.Inst{Op: api.Add, D: d, S: 2, T: 3} }
func shift(d uint8) api.Inst              { return api.Inst{Op: api.Asl, D: d, S: 2, Imm: 3} }
func load(d uint8, v int64) api.Inst      { return api.Inst{Op: api.LdW, D: d, S: 7, Imm: v} }
func storeW(t uint8, v int64) api.Inst    { return api.Inst{Op: api.StW, S: 6, T: t, Imm: v} }
func jump(to int64) api.Inst              { return api.Inst{Op: api.Jump, Imm: to} }
func farJump(to int64) api.Inst           { return api.Inst{Op: api.Jump, Imm: to, Ext: true} }
func loop(to int64, n uint16) api.Inst    { return api.Inst{Op: api.LoopI, Imm: to, Count: n} }
func packet(insts ...api.Inst) api.Packet { return api.Packet{Insts: insts} }
func dup(insts ...api.Inst) api.Packet    { return api.Packet{Insts: insts, Dup: true} }
func raw(p api.Packet) api.Packet         { p.Raw = true; return p }
func end0(p api.Packet) api.Packet        { p.End0 = true; return p }
func end1(p api.Packet) api.Packet        { p.End1 = true; return p }

// flagged sets End0, End1, Raw and Dup by the bits of flags.
func flagged(flags int, insts ...api.Inst) api.Packet {
	return api.Packet{Insts: insts, End0: flags&1 != 0, End1: flags&2 != 0, Raw: flags&4 != 0, Dup: flags&8 != 0}
}

// checkRow asks for this row, in whichever order the instructions are passed.
func checkRow(t *testing.T, pc uint32, row ...api.Inst) {
	t.Helper()
	for l := range arrange.Orders(row) {
		if got, ok := pack.Order(l, pc); !ok || !slices.Equal(got, row) {
			t.Errorf("Order(%+v, %#x): %+v, %t, not %+v", l, pc, got, ok, row)
		}
	}
}

func checkNoRow(t *testing.T, pc uint32, l ...api.Inst) {
	t.Helper()
	for l := range arrange.Orders(l) {
		if got, ok := pack.Order(l, pc); ok || len(got) != 0 {
			t.Errorf("Order(%+v, %#x): %+v, %t", l, pc, got, ok)
		}
	}
}

// check asks for these words, in whichever order the instructions are passed.
func check(t *testing.T, p api.Packet, pc uint32, want ...uint32) {
	t.Helper()
	for p.Insts = range arrange.Orders(p.Insts) {
		if got, e := pack.Words(p, pc); e != api.OK || !slices.Equal(got, want) {
			t.Errorf("Words(%+v, %#x): %08x, %d, not %08x", p, pc, got, e, want)
		}
	}
}

func checkError(t *testing.T, want api.Errno, p api.Packet, pc uint32) {
	t.Helper()
	for p.Insts = range arrange.Orders(p.Insts) {
		if got, e := pack.Words(p, pc); e != want || len(got) != 0 {
			t.Errorf("Words(%+v, %#x): %08x, %d, not %d", p, pc, got, e, want)
		}
	}
}

// The examples of the chapter

func TestExamples(t *testing.T) {
	check(t, packet(nop()), 0, 0x0400c000)
	check(t, end0(packet(add(1), movi(4, 5))), 0, 0x08018430, 0x2004c005)
	check(t, dup(movi(1, 5), movi(2, 6)), 0, 0x120c0885)
	check(t, packet(far(1, 0x12345678)), 0, 0x00487456, 0x2001c078)
}

// P12.1: ordinary instructions

func TestRowGoesByClass(t *testing.T) {
	in := []api.Inst{loop(0, 9), jump(0), shift(1), add(2), load(3, 0), storeW(4, 0)}
	// Any four of them keep their order.
	for out := range in {
		for also := range out {
			checkRow(t, 0, slices.Concat(in[:also], in[also+1:out], in[out+1:])...)
		}
	}
}

func TestLesserWordOfALaterClass(t *testing.T) {
	// The words at 0 are 0x79..., 0x6c..., 0x3c..., 0x08...; those of the loads and stores are greater again.
	checkRow(t, 0, loop(0, 1), jump(4), shift(1), nop())
	checkRow(t, 0, loop(0, 1), storeW(1, 0))
	checkRow(t, 0, jump(4), load(1, 0))
	checkRow(t, 0, shift(1), nop())
	checkRow(t, 0, api.Inst{Op: api.CmpyC}, api.Inst{Op: api.Mux}, load(1, 0), storeW(1, 0))
}

func TestRowOfOneClassGoesByWords(t *testing.T) {
	checkRow(t, 0, nop(), api.Inst{Op: api.Add, D: 31, S: 31, T: 31}, api.Inst{Op: api.Sub}, api.Inst{Op: api.Mux})
	checkRow(t, 0, api.Inst{Op: api.Asl, D: 9}, api.Inst{Op: api.Lsr, D: 8}, api.Inst{Op: api.Asr, D: 7}, api.Inst{Op: api.Mpy, D: 6})
	checkRow(t, 0, api.Inst{Op: api.LdW, D: 9}, api.Inst{Op: api.LdH, D: 8}, api.Inst{Op: api.LdB, D: 7})
	checkRow(t, 0, api.Inst{Op: api.StW, S: 9}, api.Inst{Op: api.StH, S: 8}, api.Inst{Op: api.StB, S: 7})
	checkRow(t, 0, jump(8), api.Inst{Op: api.JumpR}, api.Inst{Op: api.Call, Imm: 4})
	checkRow(t, 0, loop(8, 9), api.Inst{Op: api.LoopR, Imm: 4})

	// A register of the upper part of the payload decides before one of the lower part.
	checkRow(t, 0, add(1), add(2), add(16), add(31))
	checkRow(t, 0, api.Inst{Op: api.Add, D: 1, T: 3}, api.Inst{Op: api.Add, D: 1, S: 1, T: 2}, api.Inst{Op: api.Add, D: 2, T: 1})
	checkRow(t, 0, api.Inst{Op: api.Add, D: 31}, api.Inst{Op: api.Add, D: 1, Mode: api.If}, api.Inst{Op: api.Add, Mode: api.If, Pred: 1}, api.Inst{Op: api.Add, Mode: api.IfNot})
	checkRow(t, 0, api.Inst{Op: api.StW, T: 31, Imm: 4}, api.Inst{Op: api.StW, New: true})
}

func TestRowGoesByWordsAndNotByValues(t *testing.T) {
	// A value below 0 has the greater word.
	checkRow(t, 0, movi(1, 0), movi(1, 8191), movi(1, -8192), movi(1, -1))
	checkRow(t, 0, load(1, 4), load(1, 8188), load(1, -8192), load(1, -4))
	// An extended value is in the row by its lower part first.
	checkRow(t, 0, far(1, 0x7fffff00), movi(1, 1), far(1, -254), movi(1, 3))
}

func TestRowOfEachTwoOps(t *testing.T) {
	classes := "AAAAAAAAAAAAAAXXXXXXLLLSSSJJJCC"
	place := func(op int) int {
		rank := map[byte]int{'C': 0, 'J': 1, 'X': 2, 'A': 3, 'L': 4, 'S': 5}[classes[op-1]]
		return rank*100 + op
	}
	for a := range 256 {
		for b := range 256 {
			in, other := api.Inst{Op: uint8(a)}, api.Inst{Op: uint8(b)}
			switch {
			case a < 1 || b < 1 || a > 31 || b > 31:
				checkNoRow(t, 0, in, other)
			case place(a) <= place(b):
				checkRow(t, 0, in, other)
			}
		}
	}
}

// P12.1: the edges

func TestEqualWordsGoByUpperParts(t *testing.T) {
	// All of these have the word 0x20010005; the upper parts are 0, 1, 0x7fffff, 0x800000 and 0xffffff.
	checkRow(t, 0, far(1, 5), far(1, 0x105), far(1, 0x7fffff05), far(1, -0x7ffffffb))
	checkRow(t, 0, far(1, 0x105), far(1, 0x7fffff05), far(1, -0x7ffffffb), far(1, -0xfb))
	checkRow(t, 0, movi(1, 5), far(1, 0x105), far(1, -0xfb))
	// The word decides before the upper part.
	checkRow(t, 0, far(1, -0xfb), far(1, 6), far(2, 0x105), far(2, 0x205))
}

func TestEqualWordsAndUpperPartsGoByExt(t *testing.T) {
	checkRow(t, 0, movi(1, 0), far(1, 0))
	checkRow(t, 0, movi(1, 255), far(1, 255))
	checkRow(t, 0, movi(1, 0), far(1, 0), far(1, 256), movi(1, 1))
	checkRow(t, 0, movi(1, 0), movi(1, 0), far(1, 0), far(1, 0))
	checkRow(t, 0, load(1, 16), api.Inst{Op: api.LdW, D: 1, S: 7, Imm: 4, Ext: true}, api.Inst{Op: api.LdW, D: 1, S: 7, Imm: 260, Ext: true})
	// A target of 16 and, extended, one of 4 are held as 4, each.
	checkRow(t, 0, jump(16), farJump(4), farJump(0x104), jump(20))
}

func TestTheSameInstructionTwice(t *testing.T) {
	checkRow(t, 0, nop(), nop())
	checkRow(t, 0, nop(), nop(), nop(), nop())
	checkRow(t, 0, shift(1), shift(1), add(2), add(2))
	checkRow(t, 0, far(1, 5), far(1, 5), far(1, 0x105), far(1, 0x105))
}

func TestRowOfTargetsMovesWithTheAddress(t *testing.T) {
	checkRow(t, 0, jump(8), jump(100))
	checkRow(t, 8, jump(8), jump(100))
	checkRow(t, 12, jump(100), jump(8))
	checkRow(t, 104, jump(8), jump(100))
	checkRow(t, 0xfffffff0, jump(0xfffffff4), jump(0), jump(4), jump(0xffffffec))
	checkRow(t, 0, loop(4, 9), loop(8, 5), loop(0x1ffc, 1))
	checkRow(t, 8, loop(8, 5), loop(0x1ffc, 1), loop(4, 9))
	// Extended ones: the lower parts at 0 and at 8 are 4 and 8, 252 and 0; at 2, which no packet has, 2 and 6.
	checkRow(t, 0, farJump(4), farJump(8))
	checkRow(t, 8, farJump(8), farJump(4))
	checkRow(t, 2, farJump(4), farJump(8))
	checkNoRow(t, 2, jump(4))
}

func TestRowOfFewAndMany(t *testing.T) {
	checkRow(t, 0)
	checkRow(t, 0, nop())
	checkRow(t, 0, add(1), add(2), add(3), add(4))
	checkNoRow(t, 0, add(1), add(2), add(3), add(4), add(5))
	checkNoRow(t, 0, nop(), nop(), nop(), nop(), nop())
	for _, n := range []int{6, 7, 1 << 22} {
		if got, ok := pack.Order(make([]api.Inst, n), 0); ok || len(got) != 0 {
			t.Errorf("Order of %d: %+v, %t", n, got, ok)
		}
		if got, ok := pack.Order(slices.Repeat([]api.Inst{nop()}, n), 0); ok || len(got) != 0 {
			t.Errorf("Order of %d: %+v, %t", n, got, ok)
		}
	}
}

func TestRowOfTheSetsOfThePool(t *testing.T) {
	ties := []known{
		{movi(1, 5), "A", 0x20010005, 0, 0},
		{far(1, 5), "A", 0x20010005, 0, 0},
		{far(1, 0x105), "A", 0x20010005, 1, 0},
		{far(1, -0xfb), "A", 0x20010005, 0xffffff, 0},
		{jump(home + 16), "J", 0x6c000004, 0, 0},
		{farJump(home + 4), "J", 0x6c000004, 0, 0},
		{farJump(home - 0xfc), "J", 0x6c000004, 0xffffff, 0},
	}
	try := func(all []known, n int) {
		for l := range arrange.Multisets(all, n) {
			if slices.ContainsFunc(l, lacksWord) {
				checkNoRow(t, home, instsOf(l)...)
				continue
			}
			checkRow(t, home, instsOf(rowOf(l))...)
		}
	}
	for n := range 4 {
		try(slices.Concat(ties, pool()), n)
	}
	// Of four, those of the pool that can be legal are tried with their words.
	try(slices.Concat(ties, pool()[:5]), 4)
}

// P12.1: wrong instructions

// wrong are not valid, or valid with a value that does not fit at 0.
func wrong() []api.Inst {
	return []api.Inst{
		{}, {Op: 32}, {Op: 64 + api.Nop}, {Op: 255}, {Op: api.Nop, D: 1}, {Op: api.Nop, Ext: true},
		movi(32, 0), movi(1, 8192), movi(1, -8193), far(1, 1<<31), far(1, -1<<31-1), {Op: api.MovI, Pred: 1}, {Op: api.MovI, Mode: 5},
		load(1, 2), load(1, 8192), {Op: api.Asl, Imm: 32}, {Op: api.Asl, Ext: true},
		jump(2), jump(-4), jump(1 << 20), jump(1 << 31), jump(1 << 32), farJump(2), farJump(-4), farJump(1 << 32),
		{Op: api.Call, Imm: 1 << 25}, loop(1<<13, 1), loop(4, 2048), {Op: api.LoopR, Imm: 1 << 13},
	}
}

func TestNoRowWithAWrongInstruction(t *testing.T) {
	for _, in := range wrong() {
		checkNoRow(t, 0, in)
		checkNoRow(t, 0, in, in)
		checkNoRow(t, 0, in, nop(), add(1))
		checkNoRow(t, 0, in, load(1, 0), add(1), loop(4, 1))
		checkNoRow(t, 0, in, nop(), nop(), nop(), nop())
	}
}

// P12.2: ordinary packets, without Dup

func TestOneToFourInstructions(t *testing.T) {
	for _, flags := range []int{0, 4} {
		check(t, flagged(flags, movi(1, -1)), 0, 0x2001ffff)
		check(t, flagged(flags, jump(8)), 12, 0x6c1fffff)
		check(t, flagged(flags, storeW(1, 8), load(2, 4)), 0, 0x54474004, 0x60c0e004)
		check(t, flagged(flags, load(1, 0), add(2), shift(3)), 0, 0x3c624600, 0x08024430, 0x5427c000)
		check(t, flagged(flags, jump(0), storeW(1, 0), loop(4, 2047), load(2, 0)), 0, 0x78004fff, 0x6c004000, 0x54474000, 0x60c0e000)
		check(t, flagged(flags, nop(), nop(), nop(), nop()), 0, 0x04004000, 0x04004000, 0x04004000, 0x0400c000)
	}
}

func TestSeveralOfOneClass(t *testing.T) {
	check(t, packet(api.Inst{Op: api.Xor, D: 1}, api.Inst{Op: api.Or, D: 2}, api.Inst{Op: api.And, D: 3}), 0, 0x10034000, 0x14024000, 0x1801c000)
	check(t, packet(add(4), add(1), add(3), add(2)), 0, 0x08014430, 0x08024430, 0x08034430, 0x0804c430)
	check(t, packet(shift(2), shift(1)), 0, 0x3c224600, 0x3c42c600)
	check(t, packet(load(1, 4), load(2, 0)), 0, 0x54274004, 0x5447c000)
	// Only the value differs, and two conditions that exclude each other; only a value, of those that write nothing twice.
	when := func(mode uint8, v int64) api.Inst { return api.Inst{Op: api.MovI, D: 1, Mode: mode, Imm: v} }
	check(t, packet(when(api.If, -1), when(api.IfNot, 1)), 0, 0x20817fff, 0x2101c001)
	check(t, packet(when(api.If, 1), when(api.IfNot, 1)), 0, 0x20814001, 0x2101c001)
}

func TestExtenders(t *testing.T) {
	check(t, packet(far(1, 0)), 0, 0x00004000, 0x2001c000)
	check(t, packet(far(1, -1)), 0, 0x03ff7fff, 0x2001c0ff)
	check(t, packet(far(1, -1<<31)), 0, 0x02004000, 0x2001c000)
	check(t, packet(far(2, 0x12345678), far(1, -1)), 0, 0x03ff7fff, 0x200140ff, 0x00487456, 0x2002c078)
	check(t, packet(far(1, 256), nop(), load(2, 0)), 0, 0x04004000, 0x00004001, 0x20014000, 0x5447c000)
	check(t, packet(farJump(8), storeW(0, 0)), 12, 0x03ff7fff, 0x6c0040fc, 0x60c0c000)
	check(t, packet(storeW(0, 0), api.Inst{Op: api.LdB, D: 1, Imm: 256, Ext: true}, shift(3)), 0, 0x3c624600, 0x00004001, 0x5c204000, 0x60c0c000)
	check(t, packet(api.Inst{Op: api.StB, Imm: 0x1ff, Ext: true}, nop()), 0, 0x04004000, 0x00004001, 0x6800c1fe)
}

func TestTargetsMoveWithTheAddress(t *testing.T) {
	check(t, packet(jump(8), nop()), 0, 0x6c004002, 0x0400c000)
	check(t, packet(jump(8), nop()), 8, 0x6c004000, 0x0400c000)
	check(t, packet(jump(8), nop()), 12, 0x6c1f7fff, 0x0400c000)
	check(t, packet(jump(0), nop()), 0xfffffffc, 0x6c004001, 0x0400c000)
	check(t, packet(farJump(8), nop()), 12, 0x03ff7fff, 0x6c0040fc, 0x0400c000)
	check(t, packet(farJump(8), nop()), 9, 0x03ff7fff, 0x6c0040ff, 0x0400c000)
	// The other words stay.
	check(t, packet(loop(16, 3), far(1, 300)), 0, 0x78006003, 0x00004001, 0x2001c02c)
	check(t, packet(loop(16, 3), far(1, 300)), 16, 0x78004003, 0x00004001, 0x2001c02c)
}

// P12.2: Dup

func TestDuplexAloneAndBesideOthers(t *testing.T) {
	check(t, dup(movi(0, 0), movi(1, 0)), 0, 0x11000800)
	check(t, dup(storeW(1, 8), movi(2, 6)), 0, 0x120c330a)
	check(t, dup(movi(1, 5), movi(2, 6), nop()), 0, 0x04004000, 0x120c0885)
	check(t, dup(movi(1, 5), movi(2, 6), shift(3)), 0, 0x3c624600, 0x120c0885)
	check(t, dup(movi(1, 5), movi(2, 6), jump(8)), 12, 0x6c1f7fff, 0x120c0885)
	check(t, dup(movi(1, 5), movi(2, 6), nop(), loop(4, 1)), 0, 0x78004801, 0x04004000, 0x120c0885)
	check(t, dup(movi(1, 5), movi(2, 6), shift(4), shift(3)), 0, 0x3c624600, 0x3c824600, 0x120c0885)
}

func TestDuplexBesideAnExtended(t *testing.T) {
	check(t, dup(movi(1, 5), movi(2, 6), far(3, 0x12345678)), 0, 0x00487456, 0x20034078, 0x120c0885)
	check(t, dup(movi(1, 5), movi(2, 6), far(0, 5)), 0, 0x00004000, 0x20004005, 0x120c0885)
	check(t, dup(movi(1, 5), movi(2, 6), far(3, 256), add(4)), 0, 0x08044430, 0x00004001, 0x20034000, 0x120c0885)
	check(t, dup(movi(1, 5), movi(2, 6), farJump(8), nop()), 12, 0x03ff7fff, 0x6c0040fc, 0x04004000, 0x120c0885)
}

func TestPairIsChosenOutOfTheRow(t *testing.T) {
	// The first two of the row, whichever come first in the list.
	check(t, dup(movi(3, 0), movi(2, 6), movi(1, 5)), 0, 0x20034000, 0x120c0885)
	check(t, dup(movi(4, 0), movi(3, 0), movi(2, 6), movi(1, 5)), 0, 0x20034000, 0x20044000, 0x120c0885)
	// Those with a condition have no small instruction.
	when := func(mode uint8) api.Inst { return api.Inst{Op: api.MovI, D: 1, Mode: mode, Imm: 1} }
	check(t, dup(movi(2, 6), when(api.If), when(api.IfNot), movi(3, 5)), 0, 0x20814001, 0x21014001, 0x130a0906)
	// Not the first two: a load has no slot beside a duplex.
	check(t, dup(load(3, 0), movi(1, 5), api.Inst{Op: api.AddI, D: 4, S: 4, Imm: 1}), 0, 0x20014005, 0x53701201)
	check(t, dup(movi(1, 5), movi(2, 6), load(3, 0), load(4, 0)), 0, 0x20014005, 0x20024006, 0x547029b8)
	check(t, dup(movi(1, 5), load(3, 0), storeW(4, 0)), 0, 0x20014005, 0x53703320)
	// Those of class X, J and C come before the two, though they have none to be paired with.
	check(t, dup(movi(2, 6), movi(1, 5), movi(0, 0), loop(4, 1)), 0, 0x78004801, 0x20024006, 0x110a0800)
}

// P12.2: the parse bits

func TestParseBitsOfTwoWords(t *testing.T) {
	check(t, packet(nop(), add(1)), 0, 0x04004000, 0x0801c430)
	check(t, end0(packet(nop(), add(1))), 0, 0x04008000, 0x0801c430)
	check(t, end0(packet(far(1, 256))), 0, 0x00008001, 0x2001c000)
	check(t, end0(dup(movi(1, 5), movi(2, 6), nop())), 0, 0x04008000, 0x120c0885)
}

func TestParseBitsOfThreeWords(t *testing.T) {
	three := packet(add(1), add(2), add(3))
	check(t, three, 0, 0x08014430, 0x08024430, 0x0803c430)
	check(t, end0(three), 0, 0x08018430, 0x08024430, 0x0803c430)
	check(t, end1(three), 0, 0x08014430, 0x08028430, 0x0803c430)
	check(t, end0(end1(three)), 0, 0x08018430, 0x08028430, 0x0803c430)

	first := packet(far(1, 256), load(2, 0))
	check(t, end0(first), 0, 0x00008001, 0x20014000, 0x5447c000)
	check(t, end1(first), 0, 0x00004001, 0x20018000, 0x5447c000)
	check(t, end0(end1(first)), 0, 0x00008001, 0x20018000, 0x5447c000)

	second := packet(far(1, 256), add(2))
	check(t, end0(second), 0, 0x08028430, 0x00004001, 0x2001c000)
	check(t, end1(second), 0, 0x08024430, 0x00008001, 0x2001c000)
	check(t, end0(end1(second)), 0, 0x08028430, 0x00008001, 0x2001c000)

	paired := dup(movi(1, 5), movi(2, 6), far(3, 256))
	check(t, end0(paired), 0, 0x00008001, 0x20034000, 0x120c0885)
	check(t, end1(paired), 0, 0x00004001, 0x20038000, 0x120c0885)
	check(t, end0(end1(paired)), 0, 0x00008001, 0x20038000, 0x120c0885)
}

func TestParseBitsOfFourWords(t *testing.T) {
	four := packet(add(1), add(2), add(3), add(4))
	check(t, end0(four), 0, 0x08018430, 0x08024430, 0x08034430, 0x0804c430)
	check(t, end1(four), 0, 0x08014430, 0x08028430, 0x08034430, 0x0804c430)
	check(t, end0(end1(four)), 0, 0x08018430, 0x08028430, 0x08034430, 0x0804c430)

	extended := packet(far(1, 256), far(2, 512))
	check(t, end0(extended), 0, 0x00008001, 0x20014000, 0x00004002, 0x2002c000)
	check(t, end1(extended), 0, 0x00004001, 0x20018000, 0x00004002, 0x2002c000)
	check(t, end0(end1(extended)), 0, 0x00008001, 0x20018000, 0x00004002, 0x2002c000)

	second := dup(movi(1, 5), movi(2, 6), far(3, 256), add(4))
	check(t, end0(second), 0, 0x08048430, 0x00004001, 0x20034000, 0x120c0885)
	check(t, end1(second), 0, 0x08044430, 0x00008001, 0x20034000, 0x120c0885)
	check(t, end0(end1(second)), 0, 0x08048430, 0x00008001, 0x20034000, 0x120c0885)
}

// P12.2: the errors

func TestWrongPackets(t *testing.T) {
	checkError(t, api.ErrForm, packet(), 0)
	checkError(t, api.ErrForm, dup(), 0)
	checkError(t, api.ErrForm, packet(nop(), nop(), nop(), nop(), nop()), 0)
	checkError(t, api.ErrForm, raw(dup(movi(1, 5), movi(2, 6))), 0)
	checkError(t, api.ErrForm, packet(nop(), movi(1, 8192)), 0)
	checkError(t, api.ErrForm, packet(nop(), api.Inst{}), 0)
	checkError(t, api.ErrSlots, packet(load(1, 0), load(2, 0), load(3, 0)), 0)
	checkError(t, api.ErrSlots, dup(movi(1, 5)), 0)
	checkError(t, api.ErrSlots, dup(movi(1, 5), nop()), 0)
	checkError(t, api.ErrWords, packet(far(1, 0), far(2, 0), nop()), 0)
	checkError(t, api.ErrBranch, packet(jump(4), jump(8)), 0)
	checkError(t, api.ErrWrites, packet(movi(1, 5), movi(1, 5)), 0)
	checkError(t, api.ErrNew, packet(api.Inst{Op: api.StW, New: true}), 0)
	checkError(t, api.ErrLoop, end0(packet(jump(4), nop())), 0)
	checkError(t, api.ErrLoop, end0(packet(nop())), 0)
	checkError(t, api.ErrLoop, end1(packet(nop(), nop())), 0)
	checkError(t, api.ErrLoop, end0(dup(movi(1, 5), movi(2, 6))), 0)
	checkError(t, api.ErrLoop, end1(dup(movi(1, 5), movi(2, 6), nop())), 0)
}

func TestOutOfRange(t *testing.T) {
	for _, in := range []api.Inst{jump(1 << 20), jump(1 << 31), {Op: api.Call, Imm: 1 << 25}, loop(1<<13, 1), {Op: api.LoopR, Imm: 1 << 13}} {
		checkError(t, api.ErrRange, packet(in), 0)
		checkError(t, api.ErrRange, raw(packet(in)), 0)
		checkError(t, api.ErrRange, packet(in, nop(), load(1, 0)), 0)
		checkError(t, api.ErrRange, dup(in, movi(1, 5), movi(2, 6)), 0)
		checkError(t, api.ErrRange, packet(in), 2)
		in.Ext = true
		if _, e := pack.Words(packet(in), 0); e != api.OK {
			t.Errorf("%+v: %d", in, e)
		}
	}
	// The borders of a jump: 2^20 - 4 ahead, 2^20 behind.
	check(t, packet(jump(1<<20-4)), 0, 0x6c0fffff)
	check(t, packet(jump(1<<20)), 4, 0x6c0fffff)
	check(t, packet(jump(0)), 1<<20, 0x6c10c000)
	checkError(t, api.ErrRange, packet(jump(0)), 1<<20+4)
	// A target that is no multiple of 4 from the address on has no word unless it is extended.
	checkError(t, api.ErrRange, packet(jump(4)), 1)
}

func TestAnyErrorOfLegalComesBeforeErrRange(t *testing.T) {
	out, loops := jump(1<<20), loop(1<<13, 1)
	checkError(t, api.ErrForm, packet(out, nop(), nop(), nop(), nop()), 0)
	checkError(t, api.ErrForm, packet(out, api.Inst{}), 0)
	checkError(t, api.ErrForm, raw(dup(out, movi(1, 5), movi(2, 6))), 0)
	checkError(t, api.ErrSlots, packet(out, shift(1), shift(2)), 0)
	checkError(t, api.ErrSlots, packet(loops, loops), 0)
	checkError(t, api.ErrSlots, dup(out, movi(1, 5)), 0)
	checkError(t, api.ErrWords, packet(out, far(1, 0), far(2, 0)), 0)
	checkError(t, api.ErrBranch, packet(out, jump(4)), 0)
	checkError(t, api.ErrWrites, packet(out, add(1), movi(1, 5)), 0)
	checkError(t, api.ErrNew, packet(api.Inst{Op: api.Jump, Mode: api.IfNew, Imm: 1 << 20}), 0)
	checkError(t, api.ErrLoop, end0(packet(out, nop())), 0)
	checkError(t, api.ErrLoop, end1(packet(loops, nop(), nop())), 0)
}

// P12.2 and P12.3: all sets of the pool, with all flags

func TestWordsOfTheSetsOfThePool(t *testing.T) {
	tried := map[api.Errno]int{}
	for n := range 5 {
		for l := range arrange.Multisets(pool(), n) {
			for flags := range 16 {
				p := flagged(flags, instsOf(l)...)
				words, e := wanted(l, p)
				tried[e]++
				checkOnce(t, p, words, e)
				// With Dup alone and with no flag in every order: the other flags have no part in the row.
				if e == api.OK && flags&7 == 0 {
					check(t, p, home, words...)
				}
			}
		}
	}
	for _, e := range []api.Errno{api.OK, api.ErrRange, api.ErrForm, api.ErrSlots, api.ErrWords, api.ErrBranch, api.ErrWrites, api.ErrNew, api.ErrLoop} {
		if tried[e] < 100 {
			t.Errorf("%d packets with the error %d", tried[e], e)
		}
	}
}

// checkOnce asks for the words at home, and for what P12.3 promises of them besides that they do not depend on the order.
func checkOnce(t *testing.T, p api.Packet, want []uint32, wantE api.Errno) {
	t.Helper()
	words, e := pack.Words(p, home)
	if e != wantE || !slices.Equal(words, want) {
		t.Errorf("Words(%+v, %#x): %08x, %d, not %08x, %d", p, home, words, e, want, wantE)
	}
	if e == api.OK && len(words) != legal.Words(p) {
		t.Errorf("Words(%+v): %08x, and legal.Words says %d", p, words, legal.Words(p))
	}
	for i, w := range words {
		parse := w / 16384 % 4
		if ends := parse == 0 || parse == 3; ends != (i == len(words)-1) {
			t.Errorf("Words(%+v): %08x, and word %d has the parse bits %d", p, words, i, parse)
		}
	}
}

// The rules R1, R3 and R4

// wild makes instructions of any numbers, in a fixed order.
func wild(seed *uint64) api.Inst {
	next := func() uint64 {
		*seed = *seed*6364136223846793005 + 1442695040888963407
		return *seed >> 32
	}
	in := api.Inst{Op: uint8(next()), D: uint8(next()), S: uint8(next()), T: uint8(next()), N: uint8(next()), Pred: uint8(next()), Mode: uint8(next()), New: next()%2 == 0, Ext: next()%2 == 0, Count: uint16(next()), Imm: int64(next()<<32 | next())}
	if next()%2 == 0 {
		in = api.Inst{Op: uint8(next() % 34), Ext: next()%4 == 0, Imm: int64(next()%64) * 4}
	}
	return in
}

func TestAnyArgumentsEnd(t *testing.T) {
	seed := uint64(1)
	for k := range 100000 {
		l := make([]api.Inst, k%6)
		for i := range l {
			l[i] = wild(&seed)
		}
		pc := uint32(seed >> 16)
		p := flagged(k/6%16, l...)
		row, ok := pack.Order(l, pc)
		words, e := pack.Words(p, pc)
		if ok != (len(row) == len(l)) || (e == api.OK) != (len(words) > 0) || e == api.OK && !ok {
			t.Errorf("%+v at %#x: %+v, %t, %08x, %d", p, pc, row, ok, words, e)
		}
	}
	extreme := api.Inst{Op: 255, D: 255, S: 255, T: 255, N: 255, Pred: 255, Mode: 255, New: true, Ext: true, Count: 65535, Imm: math.MinInt64}
	checkNoRow(t, math.MaxUint32, extreme)
	checkError(t, api.ErrForm, packet(extreme), math.MaxUint32)
	many := slices.Repeat([]api.Inst{nop()}, 1<<22)
	for flags := range 16 {
		if got, e := pack.Words(flagged(flags, many...), 0); e != api.ErrForm || len(got) != 0 {
			t.Errorf("Words of very many: %08x, %d", got, e)
		}
	}
}

func TestArgumentsStayAsTheyAre(t *testing.T) {
	spare := []api.Inst{storeW(1, 0), load(3, 0), movi(1, 5), far(2, 256), jump(77), jump(78), jump(79)}
	for n := range 6 {
		for flags := range 16 {
			passed := slices.Clone(spare)
			pack.Order(passed[:n], 0)
			pack.Words(flagged(flags, passed[:n]...), 0)
			if !slices.Equal(passed, spare) {
				t.Errorf("%d passed with the flags %d: %+v", n, flags, passed)
			}
		}
	}
}

func TestResultsAreNewMemory(t *testing.T) {
	for _, l := range [][]api.Inst{{nop()}, {add(1), add(2)}, {add(2), add(1), far(3, 256)}} {
		was := slices.Clone(l)
		row, _ := pack.Order(l, 0)
		words, _ := pack.Words(packet(l...), 0)
		wasRow, wasWords := slices.Clone(row), slices.Clone(words)
		clear(row[:cap(row)])
		clear(words[:cap(words)])
		again, ok := pack.Order(l, 0)
		same, e := pack.Words(packet(l...), 0)
		if !slices.Equal(l, was) || !ok || !slices.Equal(again, wasRow) || e != api.OK || !slices.Equal(same, wasWords) {
			t.Errorf("%+v after its results were cleared: %+v, %08x", was, again, same)
		}
	}
}
