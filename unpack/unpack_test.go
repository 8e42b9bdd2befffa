package unpack_test

import (
	"slices"
	"testing"

	"coxless/api"
	"coxless/arrange"
	"coxless/unpack"
)

func nop() api.Inst                       { return api.Inst{Op: api.Nop} }
func movi(d uint8, v int64) api.Inst      { return api.Inst{Op: api.MovI, D: d, Imm: v} }
func far(d uint8, v int64) api.Inst       { return api.Inst{Op: api.MovI, D: d, Imm: v, Ext: true} }
func add(d uint8) api.Inst                { return api.Inst{Op: api.Add, D: d, S: 2, T: 3} }
func shift(d uint8) api.Inst              { return api.Inst{Op: api.Asl, D: d, S: 2, Imm: 3} }
func load(d uint8, v int64) api.Inst      { return api.Inst{Op: api.LdW, D: d, S: 7, Imm: v} }
func storeW(t uint8, v int64) api.Inst    { return api.Inst{Op: api.StW, S: 6, T: t, Imm: v} }
func jump(to int64) api.Inst              { return api.Inst{Op: api.Jump, Imm: to} }
func farJump(to int64) api.Inst           { return api.Inst{Op: api.Jump, Imm: to, Ext: true} }
func loop(to int64, n uint16) api.Inst    { return api.Inst{Op: api.LoopI, Imm: to, Count: n} }
func packet(insts ...api.Inst) api.Packet { return api.Packet{Insts: insts} }
func raw(insts ...api.Inst) api.Packet    { return api.Packet{Insts: insts, Raw: true} }
func dup(insts ...api.Inst) api.Packet    { return api.Packet{Insts: insts, Dup: true} }
func end0(p api.Packet) api.Packet        { p.End0 = true; return p }
func end1(p api.Packet) api.Packet        { p.End1 = true; return p }

func words(l ...uint32) []uint32 { return l }

// same compares the instructions in their order.
func same(p, q api.Packet) bool {
	return slices.Equal(p.Insts, q.Insts) && p.End0 == q.End0 && p.End1 == q.End1 && p.Raw == q.Raw && p.Dup == q.Dup
}

// checkBoth asks for this packet, and for the same one of Canonical if the words are canonical.
func checkBoth(t *testing.T, l []uint32, pc uint32, want api.Packet, canonical bool) {
	t.Helper()
	if n, ok := unpack.Length(l); n != len(l) || !ok {
		t.Errorf("Length(%08x): %d, %t", l, n, ok)
	}
	if p, e := unpack.Packet(l, pc); e != api.OK || !same(p, want) {
		t.Errorf("Packet(%08x, %#x): %+v, %d, not %+v", l, pc, p, e, want)
	}
	if !canonical {
		want = api.Packet{}
	}
	if p, ok := unpack.Canonical(l, pc); ok != canonical || !same(p, want) {
		t.Errorf("Canonical(%08x, %#x): %+v, %t, not %+v", l, pc, p, ok, want)
	}
}

func check(t *testing.T, want api.Packet, pc uint32, l ...uint32) {
	t.Helper()
	checkBoth(t, l, pc, want, true)
}

// checkOther asks for a legal packet, which has other words.
func checkOther(t *testing.T, want api.Packet, pc uint32, l ...uint32) {
	t.Helper()
	checkBoth(t, l, pc, want, false)
}

func checkError(t *testing.T, want api.Errno, pc uint32, l ...uint32) {
	t.Helper()
	if p, e := unpack.Packet(l, pc); e != want || !same(p, api.Packet{}) {
		t.Errorf("Packet(%08x, %#x): %+v, %d, not %d", l, pc, p, e, want)
	}
	if p, ok := unpack.Canonical(l, pc); ok || !same(p, api.Packet{}) {
		t.Errorf("Canonical(%08x, %#x): %+v, %t", l, pc, p, ok)
	}
}

func checkLength(t *testing.T, want int, l ...uint32) {
	t.Helper()
	if n, ok := unpack.Length(l); n != want || ok != (want > 0) {
		t.Errorf("Length(%08x): %d, %t, not %d", l, n, ok, want)
	}
}

// The examples of the chapter

func TestExamples(t *testing.T) {
	checkLength(t, 1, 0x0400c000)
	checkLength(t, 1, 0x0400c000, 0x12345678)
	check(t, end0(raw(add(1), movi(4, 5))), 0, 0x08018430, 0x2004c005)
	checkOther(t, raw(movi(4, 5), add(1)), 0, 0x20044005, 0x0801c430)
	checkLength(t, 1, 0)
	checkError(t, api.ErrForm, 0, 0)
	checkError(t, api.ErrForm, 0, 0x00487456, 0x0400c000)
	checkError(t, api.ErrArg, 0, 0x04004000)
}

// P13.1

func TestLengthWhereAnyWordEnds(t *testing.T) {
	// The other bits of a word have no part in it.
	for _, rest := range []uint32{0, 0x04000000, 0x120c0885, 0xffff3fff} {
		for _, last := range []uint32{0x0000, 0xc000} {
			ends := rest | last
			for _, more := range []uint32{0x4000, 0x8000} {
				goes := rest | more
				checkLength(t, 1, ends)
				checkLength(t, 2, goes, ends)
				checkLength(t, 3, goes, goes, ends)
				checkLength(t, 4, goes, goes, goes, ends)
				checkLength(t, 0, goes, goes, goes, goes, ends)
				checkLength(t, 0, goes)
				checkLength(t, 0, goes, goes)
				checkLength(t, 0, goes, goes, goes)
				checkLength(t, 0, goes, goes, goes, goes)
			}
		}
	}
}

func TestLengthWithWordsBehindTheEnd(t *testing.T) {
	for _, last := range []uint32{0x04000000, 0x0400c000} {
		for _, behind := range [][]uint32{{0}, {0x0400c000}, {0x04004000}, {0x04008000, 0x04004000, 0x04004000, 0x04004000}} {
			for n := range 4 {
				before := slices.Repeat(words(0x04004000), n)
				checkLength(t, n+1, slices.Concat(before, words(last), behind)...)
			}
		}
	}
}

func TestLengthOfNoneAndOfVeryMany(t *testing.T) {
	checkLength(t, 0)
	checkLength(t, 0, words()...)
	for _, more := range []uint32{0x4000, 0x8000} {
		many := slices.Repeat(words(more), 1<<22)
		checkLength(t, 0, many...)
		many[4] = 0
		checkLength(t, 0, many...)
		many[3] = 0
		checkLength(t, 4, many...)
		many[0] = 0xc000
		checkLength(t, 1, many...)
	}
}

// P13.2: ordinary packets

func TestOneInstructionHasNoRaw(t *testing.T) {
	check(t, packet(nop()), 0, 0x0400c000)
	check(t, packet(add(1)), 0, 0x0801c430)
	check(t, packet(movi(1, -1)), 0, 0x2001ffff)
	check(t, packet(load(2, 4)), 0, 0x5447c004)
	check(t, packet(storeW(1, 8)), 0, 0x60c0e004)
	check(t, packet(jump(8)), 12, 0x6c1fffff)
	check(t, packet(loop(0, 2047)), 0, 0x7800c7ff)
	// Two words are still one instruction.
	check(t, packet(far(1, 0x12345678)), 0, 0x00487456, 0x2001c078)
	check(t, end0(packet(far(1, 0x12345678))), 0, 0x0048b456, 0x2001c078)
}

func TestTwoToFourInstructionsHaveRaw(t *testing.T) {
	check(t, raw(nop(), nop()), 0, 0x04004000, 0x0400c000)
	check(t, raw(load(2, 4), storeW(1, 8)), 0, 0x54474004, 0x60c0e004)
	check(t, raw(shift(3), add(2), load(1, 0)), 0, 0x3c624600, 0x08024430, 0x5427c000)
	check(t, raw(loop(4, 2047), jump(0), load(2, 0), storeW(1, 0)), 0, 0x78004fff, 0x6c004000, 0x54474000, 0x60c0e000)
	check(t, raw(nop(), nop(), nop(), nop()), 0, 0x04004000, 0x04004000, 0x04004000, 0x0400c000)
	// Two that would have a duplex are not one by that.
	check(t, raw(movi(1, 5), movi(2, 6)), 0, 0x20014005, 0x2002c006)
}

func TestExtenders(t *testing.T) {
	check(t, packet(far(1, 0)), 0, 0x00004000, 0x2001c000)
	check(t, packet(far(1, -1)), 0, 0x03ff7fff, 0x2001c0ff)
	check(t, packet(far(1, -1<<31)), 0, 0x02004000, 0x2001c000)
	check(t, packet(far(1, 1<<31-1)), 0, 0x01ff7fff, 0x2001c0ff)
	// The upper part has nothing of the parse bits beside which it stands.
	check(t, end0(packet(far(1, 0x00400000))), 0, 0x00018000, 0x2001c000)
	check(t, packet(api.Inst{Op: api.StB, Imm: 0x1ff, Ext: true}), 0, 0x00004001, 0x6800c1fe)
	check(t, packet(api.Inst{Op: api.LdW, D: 1, S: 2, Imm: 6, Ext: true}), 0, 0x00004000, 0x5422c018)
}

func TestExtenderAheadOfAnyWord(t *testing.T) {
	check(t, raw(far(1, 256), load(2, 0)), 0, 0x00004001, 0x20014000, 0x5447c000)
	check(t, raw(add(2), far(1, 256)), 0, 0x08024430, 0x00004001, 0x2001c000)
	check(t, raw(nop(), far(1, 256), load(2, 0)), 0, 0x04004000, 0x00004001, 0x20014000, 0x5447c000)
	check(t, raw(far(1, 256), load(2, 0), storeW(1, 0)), 0, 0x00004001, 0x20014000, 0x54474000, 0x60c0e000)
	check(t, raw(nop(), add(2), far(1, 256)), 0, 0x04004000, 0x08024430, 0x00004001, 0x2001c000)
	check(t, raw(far(1, -1), far(2, 0x12345678)), 0, 0x03ff7fff, 0x200140ff, 0x00487456, 0x2002c078)
}

func TestTheOrderIsThatOfTheWords(t *testing.T) {
	in := []struct {
		in api.Inst
		w  uint32
	}{{loop(4, 2047), 0x78000fff}, {shift(3), 0x3c620600}, {add(2), 0x08020430}, {storeW(1, 0), 0x60c02000}}
	for row := range arrange.Orders([]int{0, 1, 2, 3}) {
		var insts []api.Inst
		var l []uint32
		for k, i := range row {
			parse := uint32(0x4000)
			if k == len(row)-1 {
				parse = 0xc000
			}
			insts, l = append(insts, in[i].in), append(l, in[i].w|parse)
		}
		checkBoth(t, l, 0, raw(insts...), slices.IsSorted(row))
	}
}

func TestDuplexes(t *testing.T) {
	check(t, dup(movi(1, 0), movi(0, 0)), 0, 0x11000800)
	check(t, dup(movi(2, 6), movi(1, 5)), 0, 0x120c0885)
	check(t, dup(movi(2, 6), storeW(1, 8)), 0, 0x120c330a)
	check(t, dup(nop(), movi(2, 6), movi(1, 5)), 0, 0x04004000, 0x120c0885)
	check(t, dup(jump(8), movi(2, 6), movi(1, 5)), 12, 0x6c1f7fff, 0x120c0885)
	check(t, dup(loop(4, 1), nop(), movi(2, 6), movi(1, 5)), 0, 0x78004801, 0x04004000, 0x120c0885)
	check(t, dup(far(3, 0x12345678), movi(2, 6), movi(1, 5)), 0, 0x00487456, 0x20034078, 0x120c0885)
	check(t, dup(add(4), far(3, 256), movi(2, 6), movi(1, 5)), 0, 0x08044430, 0x00004001, 0x20034000, 0x120c0885)
	check(t, dup(farJump(8), nop(), movi(2, 6), movi(1, 5)), 12, 0x03ff7fff, 0x6c0040fc, 0x04004000, 0x120c0885)
}

func TestTheParseBitsTellADuplex(t *testing.T) {
	alone := api.Inst{Op: api.And, Mode: api.IfNot, S: 4}
	check(t, packet(alone), 0, 0x1100c800)
	checkOther(t, raw(alone, nop()), 0, 0x11004800, 0x0400c000)
	checkOther(t, end0(raw(alone, nop())), 0, 0x11008800, 0x0400c000)
	checkError(t, api.ErrForm, 0, 0x120cc885)
	checkError(t, api.ErrForm, 0, 0x120c4885, 0x0400c000)
	checkError(t, api.ErrForm, 0, 0x08010430)
	checkError(t, api.ErrForm, 0, 0x08014430, 0x20040005)
}

// P13.2: the ends of loops

func TestEnds(t *testing.T) {
	check(t, end0(raw(nop(), add(1))), 0, 0x04008000, 0x0801c430)
	check(t, end0(raw(add(1), add(2), add(3))), 0, 0x08018430, 0x08024430, 0x0803c430)
	check(t, end1(raw(add(1), add(2), add(3))), 0, 0x08014430, 0x08028430, 0x0803c430)
	check(t, end0(end1(raw(add(1), add(2), add(3)))), 0, 0x08018430, 0x08028430, 0x0803c430)
	check(t, end0(raw(add(1), add(2), add(3), add(4))), 0, 0x08018430, 0x08024430, 0x08034430, 0x0804c430)
	check(t, end1(raw(add(1), add(2), add(3), add(4))), 0, 0x08014430, 0x08028430, 0x08034430, 0x0804c430)
	check(t, end0(end1(raw(add(1), add(2), add(3), add(4)))), 0, 0x08018430, 0x08028430, 0x08034430, 0x0804c430)
	checkOther(t, end0(end1(raw(add(3), add(2), add(1)))), 0, 0x08038430, 0x08028430, 0x0801c430)
}

func TestEndsOnExtendersAndWhatTheyExtend(t *testing.T) {
	check(t, end0(raw(far(1, 256), load(2, 0))), 0, 0x00008001, 0x20014000, 0x5447c000)
	check(t, end1(raw(far(1, 256), load(2, 0))), 0, 0x00004001, 0x20018000, 0x5447c000)
	check(t, end0(end1(raw(add(2), far(1, 256)))), 0, 0x08028430, 0x00008001, 0x2001c000)
	check(t, end0(end1(raw(far(1, 256), far(2, 512)))), 0, 0x00008001, 0x20018000, 0x00004002, 0x2002c000)
}

func TestEndsAheadOfADuplex(t *testing.T) {
	check(t, end0(dup(nop(), movi(2, 6), movi(1, 5))), 0, 0x04008000, 0x120c0885)
	check(t, end1(dup(far(3, 256), movi(2, 6), movi(1, 5))), 0, 0x00004001, 0x20038000, 0x120c0885)
	check(t, end0(end1(dup(nop(), add(4), movi(2, 6), movi(1, 5)))), 0, 0x04008000, 0x08048430, 0x120c0885)
}

func TestTheThirdWordEndsNoLoop(t *testing.T) {
	checkError(t, api.ErrForm, 0, 0x08014430, 0x08024430, 0x08038430, 0x0804c430)
	checkError(t, api.ErrForm, 0, 0x08018430, 0x08028430, 0x08038430, 0x0804c430)
	checkError(t, api.ErrForm, 0, 0x00004001, 0x20014000, 0x00008002, 0x2002c000)
	checkError(t, api.ErrForm, 0, 0x08044430, 0x00004001, 0x20038000, 0x120c0885)
	// As the last one it ends no packet.
	checkError(t, api.ErrArg, 0, 0x08014430, 0x08024430, 0x08038430)
	checkError(t, api.ErrArg, 0, 0x08014430, 0x08028430)
	checkError(t, api.ErrArg, 0, 0x08018430)
}

// P13.2: targets

func TestTargetsMoveWithTheAddress(t *testing.T) {
	check(t, raw(jump(8), nop()), 0, 0x6c004002, 0x0400c000)
	check(t, raw(jump(16), nop()), 8, 0x6c004002, 0x0400c000)
	check(t, raw(jump(4), nop()), 0xfffffffc, 0x6c004002, 0x0400c000)
	check(t, packet(farJump(8)), 12, 0x03ff7fff, 0x6c00c0fc)
	check(t, packet(farJump(1<<32-4)), 0, 0x03ff7fff, 0x6c00c0fc)
	check(t, dup(jump(104), nop(), movi(2, 6), movi(1, 5)), 96, 0x6c004002, 0x04004000, 0x120c0885)
	// A target counts from the packet's address, wherever in the packet its word stands.
	check(t, raw(loop(0x1010, 3), jump(0x1008), nop()), 0x1000, 0x78006003, 0x6c004002, 0x0400c000)
	checkOther(t, raw(nop(), jump(0x1008), loop(0x1010, 3)), 0x1000, 0x04004000, 0x6c004002, 0x7800e003)
	checkOther(t, raw(nop(), farJump(0x1100)), 0x1000, 0x04004000, 0x00004001, 0x6c00c000)
}

func TestTargetsFromAnAddressThatIsNoMultipleOfFour(t *testing.T) {
	checkError(t, api.ErrForm, 2, 0x6c00c002)
	check(t, packet(farJump(4)), 2, 0x00004000, 0x6c00c002)
	checkError(t, api.ErrForm, 2, 0x00004000, 0x6c00c004)
	check(t, raw(add(1), movi(4, 5)), 3, 0x08014430, 0x2004c005)
}

// P13.2: ErrArg

func TestNotTheWordsOfOnePacket(t *testing.T) {
	checkError(t, api.ErrArg, 0)
	checkError(t, api.ErrArg, 0, 0x04004000)
	checkError(t, api.ErrArg, 0, 0x04004000, 0x04004000, 0x04004000)
	checkError(t, api.ErrArg, 0, 0x04004000, 0x04004000, 0x04004000, 0x04004000)
	checkError(t, api.ErrArg, 0, 0x04004000, 0x04004000, 0x04004000, 0x04004000, 0x0400c000)
	checkError(t, api.ErrArg, 0, 0x00004001, 0x20014000, 0x00004002, 0x20024000, 0x120c0885)
	checkError(t, api.ErrArg, 0, slices.Repeat(words(0x0400c000), 1<<22)...)
	checkError(t, api.ErrArg, 0, slices.Repeat(words(0x04004000), 1<<22)...)
}

func TestWordsBehindTheEnd(t *testing.T) {
	checkError(t, api.ErrArg, 0, 0x0400c000, 0x0400c000)
	checkError(t, api.ErrArg, 0, 0x120c0885, 0x0400c000)
	checkError(t, api.ErrArg, 0, 0x120c0885, 0x04004000)
	checkError(t, api.ErrArg, 0, 0x08014430, 0x2004c005, 0)
	// Parse bits 0 end a packet early, whether they are of a duplex or not.
	checkError(t, api.ErrArg, 0, 0x04004000, 0x04000000, 0x0400c000)
	checkError(t, api.ErrForm, 0, 0x04004000, 0x04000000)
	checkError(t, api.ErrArg, 0, 0x00000001, 0x2001c000)
	checkError(t, api.ErrForm, 0, 0x00000001)
	checkError(t, api.ErrArg, 0, 0x120c0885, 0x120c0885)
	// What is wrong with the words besides comes after that.
	checkError(t, api.ErrArg, 0, 0, 0x0400c000)
	checkError(t, api.ErrArg, 0, 0x0400c001, 0x0400c000)
	checkError(t, api.ErrArg, 0, 0x20014005, 0x2001c005, 0x0400c000)
}

// P13.2: ErrForm

func TestExtendersThatExtendNothing(t *testing.T) {
	// As the last word
	checkError(t, api.ErrForm, 0, 0x0000c000)
	checkError(t, api.ErrForm, 0, 0x0000c001)
	checkError(t, api.ErrForm, 0, 0x00000000)
	checkError(t, api.ErrForm, 0, 0x04004000, 0x0000c001)
	checkError(t, api.ErrForm, 0, 0x04004000, 0x00000001)
	checkError(t, api.ErrForm, 0, 0x00004001, 0x20014000, 0x0000c001)
	checkError(t, api.ErrForm, 0, 0x04004000, 0x04004000, 0x04004000, 0x03ffffff)
	// Two in a row, the same or not
	checkError(t, api.ErrForm, 0, 0x00487456, 0x00487456, 0x2001c078)
	checkError(t, api.ErrForm, 0, 0x00004000, 0x00004001, 0x2001c078)
	checkError(t, api.ErrForm, 0, 0x04004000, 0x00004000, 0x00004000, 0x2001c078)
	checkError(t, api.ErrForm, 0, 0x00004001, 0x00004001, 0x20014000, 0x0400c000)
	checkError(t, api.ErrForm, 0, 0x00004001, 0x0000c001)
	checkError(t, api.ErrForm, 0, 0x00004001, 0x00000001)
	// Of a duplex
	checkError(t, api.ErrForm, 0, 0x00004001, 0x120c0885)
	checkError(t, api.ErrForm, 0, 0x00004000, 0x120c0885)
	checkError(t, api.ErrForm, 0, 0x04004000, 0x00004001, 0x120c0885)
	checkError(t, api.ErrForm, 0, 0x00004001, 0x20034000, 0x00004001, 0x120c0885)
}

func TestWhatCannotBeExtended(t *testing.T) {
	for _, parse := range []uint32{0x4000, 0x8000} {
		extender := 0x00000001 | parse
		checkError(t, api.ErrForm, 0, extender, 0x0400c000)
		checkError(t, api.ErrForm, 0, extender, 0x0801c430)
		checkError(t, api.ErrForm, 0, extender, 0x3c62c600)
		checkError(t, api.ErrForm, 0, extender, 0x04004000, 0x2001c000)
		// The value field has more than the lower part.
		checkError(t, api.ErrForm, 0, extender, 0x2001c100)
		checkError(t, api.ErrForm, 0, extender, 0x2001e000)
		checkError(t, api.ErrForm, 0, extender, 0x6c1fffff)
	}
}

func TestWordsThatEncodeNothing(t *testing.T) {
	for _, w := range []uint32{
		0x04000001, 0x04100000, 0x07ff3fff, // a nop with bits that mean nothing
		0x08010431, 0x08010438, 0x3c620601, 0x54270001, 0x60c02001, 0x701f0001, // the same of other instructions
		0x08210430, 0x0aa10430, 0x0be10430, // a predicate without a mode, the modes 5 and 7
		0x80000000, 0xfc000000, // no such code
	} {
		checkError(t, api.ErrForm, 0, w|0xc000)
		checkError(t, api.ErrForm, 0, 0x04004000, w|0xc000)
		checkError(t, api.ErrForm, 0, w|0x4000, 0x0400c000)
		checkError(t, api.ErrForm, 0, 0x04004000, 0x04004000, w|0x4000, 0x0400c000)
		checkError(t, api.ErrForm, 0, w|0x8000, 0x120c0885)
	}
}

func TestWordsThatAreNoDuplex(t *testing.T) {
	for _, w := range []uint32{
		0x00000885, 0xa00c0885, 0xf20c0885, 0x30020885, // no small instruction above
		0x120c0005, 0x120d1000, 0x120c1801, // none below
		0x60000800, 0x80000800, 0x60003000, // a store above
		0x04000000, 0x08010430, 0x20000005, // what is an instruction with other parse bits
	} {
		checkError(t, api.ErrForm, 0, w)
		checkError(t, api.ErrForm, 0, 0x04004000, w)
		checkError(t, api.ErrForm, 0, 0x04004000, 0x00004001, 0x20014000, w)
	}
}

// P13.2: the errors of legal.Check

func TestPacketsThatAreNotLegal(t *testing.T) {
	// Three instructions beside a duplex are five.
	checkError(t, api.ErrForm, 0, 0x04004000, 0x04004000, 0x04004000, 0x120c0885)
	checkError(t, api.ErrSlots, 0, 0x54274000, 0x54474000, 0x5467c000)
	checkError(t, api.ErrSlots, 0, 0x54474000, 0x60c06000, 0x60c0e000)
	checkError(t, api.ErrSlots, 0, 0x3c624600, 0x3c824600, 0x3ca2c600)
	// Stores and loads beside a duplex that leaves them no slots.
	checkError(t, api.ErrSlots, 0, 0x60c06000, 0x120c330a)
	checkError(t, api.ErrSlots, 0, 0x58c04000, 0x120c0885)
	checkError(t, api.ErrBranch, 0, 0x6c004001, 0x6c00c002)
	checkError(t, api.ErrWrites, 0, 0x20014005, 0x2001c006)
	checkError(t, api.ErrWrites, 0, 0x110a0885)
	checkError(t, api.ErrWrites, 0, 0x08014430, 0x120c0885)
	checkError(t, api.ErrNew, 0, 0x719fc000)
	checkError(t, api.ErrNew, 0, 0x04004000, 0x60d0e000)
	checkError(t, api.ErrLoop, 0, 0x6c008001, 0x0400c000)
	checkError(t, api.ErrLoop, 0, 0x78008fff, 0x04004000, 0x0400c000)
	checkError(t, api.ErrLoop, 0, 0x78004fff, 0x04008000, 0x0400c000)
	checkError(t, api.ErrLoop, 0, 0x6c008001, 0x120c0885)
	// The first of several
	checkError(t, api.ErrBranch, 0, 0x6c008001, 0x6c00c002)
	checkError(t, api.ErrSlots, 0, 0x54278000, 0x54274000, 0x5427c000)
	checkError(t, api.ErrWrites, 0, 0x20018005, 0x20014006, 0x6c00c001)
	// ErrForm comes first, too, if it is the words'.
	checkError(t, api.ErrForm, 0, 0x20014005, 0x20014005, 0x20018005, 0x2001c005)
	checkError(t, api.ErrForm, 0, 0x6c004001, 0x6c004001, 0x0400c001)
}

// P13.3: legal packets that have other words

func TestOtherOrders(t *testing.T) {
	checkOther(t, raw(add(2), add(1)), 0, 0x08024430, 0x0801c430)
	checkOther(t, raw(storeW(1, 0), load(2, 0)), 0, 0x60c06000, 0x5447c000)
	checkOther(t, raw(far(1, 256), add(2)), 0, 0x00004001, 0x20014000, 0x0802c430)
	checkOther(t, raw(far(2, 0x12345678), far(1, -1)), 0, 0x00487456, 0x20024078, 0x03ff7fff, 0x2001c0ff)
	checkOther(t, dup(nop(), loop(4, 1), movi(2, 6), movi(1, 5)), 0, 0x04004000, 0x78004801, 0x120c0885)
	checkOther(t, end0(raw(add(2), far(3, 256), add(1))), 0, 0x08028430, 0x00004001, 0x20034000, 0x0801c430)
}

func TestDuplexesThatAreNotCanonical(t *testing.T) {
	checkOther(t, dup(movi(0, 0), movi(1, 0)), 0, 0x10000880)
	checkOther(t, dup(movi(1, 5), movi(2, 6)), 0, 0x110a0906)
	checkOther(t, end0(dup(nop(), movi(1, 5), movi(2, 6))), 0, 0x04008000, 0x110a0906)
}

func TestAnotherPairThanTheFirst(t *testing.T) {
	check(t, dup(movi(3, 0), movi(2, 6), movi(1, 5)), 0, 0x20034000, 0x120c0885)
	checkOther(t, dup(movi(1, 5), movi(3, 0), movi(2, 6)), 0, 0x20014005, 0x13000906)
	// A load has no slot beside a duplex, but the packet is legal by another pair.
	checkOther(t, dup(load(3, 0), movi(2, 6), movi(1, 5)), 0, 0x54674000, 0x120c0885)
	check(t, dup(movi(2, 6), load(3, 0), movi(1, 5)), 0, 0x20024006, 0x53700885)
}
