package legal_test

import (
	"slices"
	"testing"

	"coxless/api"
	"coxless/arrange"
	"coxless/legal"
)

func nop() api.Inst           { return api.Inst{Op: api.Nop} }
func movi(d uint8) api.Inst   { return api.Inst{Op: api.MovI, D: d} }
func far(d uint8) api.Inst    { return api.Inst{Op: api.MovI, D: d, Imm: 1 << 20, Ext: true} }
func load(d uint8) api.Inst   { return api.Inst{Op: api.LdW, D: d, S: 7} }
func storeW(t uint8) api.Inst { return api.Inst{Op: api.StW, S: 6, T: t} }
func shift(d uint8) api.Inst  { return api.Inst{Op: api.Asl, D: d, S: 2, Imm: 3} }
func loop() api.Inst          { return api.Inst{Op: api.LoopI, Count: 9} }
func jump() api.Inst          { return api.Inst{Op: api.Jump, Imm: 32} }

// big has no small instruction.
func big(d uint8) api.Inst { return api.Inst{Op: api.Add, D: d, S: 2, T: 3} }

// needy asks for a new register that nothing writes but what gives r9.
func needy() api.Inst { return api.Inst{Op: api.StW, S: 6, T: 9, New: true} }

func list(insts ...api.Inst) []api.Inst      { return insts }
func packet(insts ...api.Inst) api.Packet    { return api.Packet{Insts: insts} }
func dup(insts ...api.Inst) api.Packet       { return api.Packet{Insts: insts, Dup: true} }
func raw(insts ...api.Inst) api.Packet       { return api.Packet{Insts: insts, Raw: true} }
func end0(p api.Packet) api.Packet           { p.End0 = true; return p }
func end1(p api.Packet) api.Packet           { p.End1 = true; return p }
func ends(p api.Packet) []api.Packet         { return []api.Packet{end0(p), end1(p), end0(end1(p))} }
func repeated(in api.Inst, n int) []api.Inst { return slices.Repeat(list(in), n) }
func beside(p api.Packet, l ...api.Inst) api.Packet {
	p.Insts = slices.Concat(p.Insts, l)
	return p
}

// flagged sets End0, End1, Raw and Dup by the bits of flags.
func flagged(flags int, insts ...api.Inst) api.Packet {
	return api.Packet{Insts: insts, End0: flags&1 != 0, End1: flags&2 != 0, Raw: flags&4 != 0, Dup: flags&8 != 0}
}

// eachOrder calls do with the packet in every order of its instructions.
func eachOrder(p api.Packet, do func(p api.Packet)) {
	for p.Insts = range arrange.Orders(p.Insts) {
		do(p)
	}
}

func check(t *testing.T, want api.Errno, p api.Packet) {
	t.Helper()
	eachOrder(p, func(p api.Packet) {
		if got := legal.Check(p); got != want {
			t.Errorf("Check(%+v): %d, not %d", p, got, want)
		}
	})
}

// checkWords asks for the error as well, since a packet with another number of words is another one.
func checkWords(t *testing.T, words int, want api.Errno, p api.Packet) {
	t.Helper()
	check(t, want, p)
	eachOrder(p, func(p api.Packet) {
		if got := legal.Words(p); got != words {
			t.Errorf("Words(%+v): %d, not %d", p, got, words)
		}
	})
}

func checkTakes(t *testing.T, want bool, p api.Packet) {
	t.Helper()
	eachOrder(p, func(p api.Packet) {
		if got := legal.Takes(p); got != want {
			t.Errorf("Takes(%+v): %t", p, got)
		}
	})
}

func checkChoose(t *testing.T, i, j int, ok bool, l ...api.Inst) {
	t.Helper()
	a, b, found := legal.Choose(l)
	if a != i || b != j || found != ok {
		t.Errorf("Choose(%+v): %d, %d, %t", l, a, b, found)
	}
}

// checkNoPair asks for every order.
func checkNoPair(t *testing.T, l ...api.Inst) {
	t.Helper()
	eachOrder(packet(l...), func(p api.Packet) { checkChoose(t, 0, 0, false, p.Insts...) })
}

// The examples of the chapter

func TestExamples(t *testing.T) {
	checkWords(t, 2, api.OK, packet(movi(0), movi(1)))
	checkWords(t, 1, api.OK, dup(movi(0), movi(1)))
	checkWords(t, 1, api.ErrLoop, end0(dup(movi(0), movi(1))))

	check(t, api.ErrSlots, packet(load(1), load(2), load(3)))
	check(t, api.ErrSlots, packet(storeW(1), storeW(2)))
	check(t, api.ErrSlots, packet(shift(1), shift(2), shift(3)))
	check(t, api.ErrSlots, packet(loop(), api.Inst{Op: api.LoopR}))

	checkWords(t, 5, api.ErrWords, packet(nop(), nop(), nop(), far(1)))
	checkWords(t, 4, api.OK, dup(movi(2), movi(3), nop(), far(1)))
	checkWords(t, 1, api.ErrLoop, end0(packet(nop())))
	checkWords(t, 2, api.OK, end0(packet(far(1))))

	checkChoose(t, 1, 2, true, big(1), movi(0), movi(1))
	checkChoose(t, 0, 3, true, load(2), movi(0), movi(1), api.Inst{Op: api.LdB, D: 3, Imm: 7})
}

// P11.3: ordinary packets

func TestPacketsThatAreOK(t *testing.T) {
	for _, flags := range []int{0, 4} {
		checkWords(t, 1, api.OK, flagged(flags, nop()))
		checkWords(t, 1, api.OK, flagged(flags, jump()))
		checkWords(t, 2, api.OK, flagged(flags, far(1)))
		checkWords(t, 2, api.OK, flagged(flags, load(1), storeW(2)))
		checkWords(t, 2, api.OK, flagged(flags, load(1), load(2)))
		checkWords(t, 2, api.OK, flagged(flags, shift(1), loop()))
		checkWords(t, 3, api.OK, flagged(flags, far(1), load(2)))
		checkWords(t, 3, api.OK, flagged(flags, big(9), needy(), load(2)))
		checkWords(t, 4, api.OK, flagged(flags, far(1), far(2)))
		checkWords(t, 4, api.OK, flagged(flags, nop(), nop(), far(2)))
		checkWords(t, 4, api.OK, flagged(flags, jump(), loop(), load(1), storeW(2)))
		checkWords(t, 4, api.OK, flagged(flags, shift(1), shift(2), load(3), load(4)))
		checkWords(t, 4, api.OK, flagged(flags, nop(), nop(), nop(), nop()))
	}
}

func TestPacketsWithDupThatAreOK(t *testing.T) {
	checkWords(t, 1, api.OK, dup(load(1), storeW(1)))
	checkWords(t, 2, api.OK, dup(movi(1), movi(2), shift(3)))
	checkWords(t, 2, api.OK, dup(load(1), movi(2), storeW(3)))
	checkWords(t, 3, api.OK, dup(load(1), load(2), jump(), loop()))
	checkWords(t, 3, api.OK, dup(movi(1), movi(2), far(3)))
	checkWords(t, 3, api.OK, dup(movi(1), movi(2), movi(3), movi(4)))
	checkWords(t, 4, api.OK, dup(movi(1), storeW(2), loop(), far(3)))
}

// P11.3: the edges

func TestSlotsOfEachClass(t *testing.T) {
	// Three loads, whichever they are; two stores; three that go into slots 2 and 3; two loop instructions.
	for _, a := range []uint8{api.LdW, api.LdH, api.LdB} {
		for _, b := range []uint8{api.StW, api.StH, api.StB} {
			ld, st := api.Inst{Op: a, D: 3}, api.Inst{Op: b}
			check(t, api.OK, packet(load(1), ld))
			check(t, api.ErrSlots, packet(load(1), load(2), ld))
			check(t, api.ErrSlots, packet(load(1), load(2), ld, nop()))
			check(t, api.OK, packet(ld, st, big(1), big(2)))
			check(t, api.ErrSlots, packet(ld, load(2), st))
			check(t, api.ErrSlots, packet(storeW(1), st))
			check(t, api.ErrSlots, packet(storeW(1), st, nop(), nop()))
		}
	}
	for _, in := range list(api.Inst{Op: api.Asl}, api.Inst{Op: api.Lsr}, api.Inst{Op: api.Asr}, api.Inst{Op: api.Mpy}, api.Inst{Op: api.Cmpy}, api.Inst{Op: api.CmpyC}, jump(), api.Inst{Op: api.JumpR}, api.Inst{Op: api.Call}, loop()) {
		check(t, api.OK, packet(shift(1), in))
		check(t, api.OK, packet(shift(1), in, big(2), load(3)))
		check(t, api.ErrSlots, packet(shift(1), shift(2), in))
		check(t, api.ErrSlots, packet(shift(1), in, shift(2), nop()))
	}
	for n := range uint8(2) {
		check(t, api.ErrSlots, packet(loop(), api.Inst{Op: api.LoopI, N: n}))
		check(t, api.ErrSlots, packet(loop(), api.Inst{Op: api.LoopR, N: n}, nop()))
	}
}

func TestFourWordsAndFive(t *testing.T) {
	for _, flags := range []int{0, 4} {
		checkWords(t, 4, api.OK, flagged(flags, big(1), big(2), big(3), big(4)))
		checkWords(t, 5, api.ErrWords, flagged(flags, big(1), big(2), big(3), far(4)))
		checkWords(t, 4, api.OK, flagged(flags, big(1), big(2), far(3)))
		checkWords(t, 5, api.ErrWords, flagged(flags, big(1), far(2), far(3)))
		checkWords(t, 6, api.ErrWords, flagged(flags, far(1), far(2), far(3)))
		checkWords(t, 6, api.ErrWords, flagged(flags, nop(), nop(), far(2), far(3)))
		checkWords(t, 5, api.ErrForm, flagged(flags, nop(), nop(), nop(), nop(), nop()))
	}
}

func TestDupSavesAWord(t *testing.T) {
	checkWords(t, 5, api.ErrWords, packet(movi(1), movi(2), big(3), far(4)))
	checkWords(t, 5, api.ErrWords, raw(movi(1), movi(2), big(3), far(4)))
	checkWords(t, 4, api.OK, dup(movi(1), movi(2), big(3), far(4)))
	checkWords(t, 6, api.ErrWords, packet(movi(1), movi(2), far(3), far(4)))
	checkWords(t, 5, api.ErrWords, dup(movi(1), movi(2), far(3), far(4)))
}

// Dup does not ask for the slots of the whole packet: what has a pair has them anyhow.
func TestDupAndSlots(t *testing.T) {
	for _, two := range twosThat {
		for _, rest := range othersThat {
			p := dup(slices.Concat(list(two.a, two.b), rest.others)...)
			eachOrder(p, func(p api.Packet) {
				got := legal.Check(p)
				if hasSlots := two.pair && rest.fit; got != api.ErrForm && (got == api.ErrSlots) == hasSlots {
					t.Errorf("Check(%+v): %d", p, got)
				}
			})
		}
	}
	check(t, api.ErrSlots, dup(nop()))
	check(t, api.ErrSlots, dup(movi(1)))
	check(t, api.ErrSlots, dup(movi(1), nop()))
	check(t, api.ErrSlots, dup(movi(1), movi(2), load(9)))
	check(t, api.ErrSlots, dup(movi(1), storeW(2), load(3), load(4)))
	check(t, api.ErrSlots, dup(storeW(1), api.Inst{Op: api.StB}))
}

// checkEnds asks for End0, End1 and both.
func checkEnds(t *testing.T, words int, want0, want1 api.Errno, p api.Packet) {
	t.Helper()
	checkWords(t, words, api.OK, p)
	checkWords(t, words, want0, end0(p))
	checkWords(t, words, want1, end1(p))
	checkWords(t, words, want1, end0(end1(p)))
}

func TestWordsAtTheEndOfLoops(t *testing.T) {
	for _, flags := range []int{0, 4} {
		checkEnds(t, 1, api.ErrLoop, api.ErrLoop, flagged(flags, nop()))
		checkEnds(t, 2, api.OK, api.ErrLoop, flagged(flags, movi(1), movi(2)))
		checkEnds(t, 2, api.OK, api.ErrLoop, flagged(flags, far(1)))
		checkEnds(t, 3, api.OK, api.OK, flagged(flags, nop(), nop(), nop()))
		checkEnds(t, 3, api.OK, api.OK, flagged(flags, nop(), far(1)))
		checkEnds(t, 4, api.OK, api.OK, flagged(flags, nop(), nop(), nop(), nop()))
		checkEnds(t, 4, api.OK, api.OK, flagged(flags, far(1), far(2)))
	}
	checkEnds(t, 1, api.ErrLoop, api.ErrLoop, dup(movi(1), movi(2)))
	checkEnds(t, 2, api.OK, api.ErrLoop, dup(movi(1), movi(2), nop()))
	checkEnds(t, 3, api.OK, api.OK, dup(movi(1), movi(2), nop(), nop()))
	checkEnds(t, 3, api.OK, api.OK, dup(movi(1), movi(2), far(3)))
	checkEnds(t, 4, api.OK, api.OK, dup(movi(1), movi(2), nop(), far(3)))
}

// P11.3: what layer 10 forbids

func TestWhatLayerTenForbids(t *testing.T) {
	for _, flags := range []int{0, 4, 8} {
		// With Dup, these two are the pair.
		p := flagged(flags, movi(1), movi(2))
		check(t, api.OK, p)
		check(t, api.ErrBranch, beside(p, jump(), jump()))
		check(t, api.ErrBranch, beside(p, jump(), api.Inst{Op: api.Call}))
		check(t, api.ErrWrites, beside(p, movi(2)))
		check(t, api.ErrWrites, beside(p, big(1)))
		check(t, api.ErrWrites, beside(p, api.Inst{Op: api.CmpEq}, api.Inst{Op: api.CmpGt}))
		check(t, api.ErrNew, beside(p, api.Inst{Op: api.Jump, Mode: api.IfNew}))
		check(t, api.ErrNew, beside(p, api.Inst{Op: api.Add, D: 3, Mode: api.NotNew, Pred: 1}, api.Inst{Op: api.CmpEq}))
		for _, p := range ends(p) {
			check(t, api.ErrLoop, beside(p, jump()))
			check(t, api.ErrLoop, beside(p, loop()))
			check(t, api.ErrLoop, beside(p, loop(), nop()))
		}
	}
	check(t, api.ErrNew, packet(needy()))
	check(t, api.ErrNew, packet(needy(), load(9)))
	check(t, api.OK, packet(needy(), big(9)))
	check(t, api.ErrWrites, dup(movi(1), movi(1)))
	check(t, api.ErrWrites, dup(load(3), movi(3), nop()))
	check(t, api.OK, packet(api.Inst{Op: api.MovI, D: 1, Mode: api.If}, api.Inst{Op: api.MovI, D: 1, Mode: api.IfNot}))
}

// P11.3: which of the errors is told

// A twofold packet has two errors or more: want is the first, and later is one that it has as well.
type twofold struct {
	want  api.Errno
	later string
	p     api.Packet
}

func twofolds() []twofold {
	farJump := api.Inst{Op: api.Jump, Ext: true}
	farNeedy := api.Inst{Op: api.StW, S: 6, T: 9, New: true, Ext: true}
	ifNew := api.Inst{Op: api.Jump, Mode: api.IfNew}
	return []twofold{
		{api.ErrSlots, "words", packet(load(1), load(2), load(3), far(4))},
		{api.ErrSlots, "words with Dup", dup(far(1), far(2), far(3))},
		{api.ErrSlots, "branch", packet(jump(), shift(1), jump())},
		{api.ErrSlots, "branch with Dup", dup(jump(), jump())},
		{api.ErrSlots, "writes", packet(load(1), load(1), load(1))},
		{api.ErrSlots, "writes with Dup", dup(big(1), movi(1))},
		{api.ErrSlots, "new", packet(needy(), needy())},
		{api.ErrSlots, "new with Dup", dup(needy(), movi(1))},
		{api.ErrSlots, "loop", end0(packet(loop(), loop()))},
		{api.ErrSlots, "loop with Dup", end0(dup(loop(), movi(1), nop()))},
		{api.ErrSlots, "few words", end1(packet(storeW(1), storeW(2)))},
		{api.ErrSlots, "few words with Dup", end0(dup(nop()))},
		{api.ErrWords, "branch", packet(farJump, jump(), far(1))},
		{api.ErrWords, "branch with Dup", dup(farJump, farJump, movi(1), movi(2))},
		{api.ErrWords, "writes", packet(far(1), far(1), nop())},
		{api.ErrWords, "writes with Dup", dup(far(1), far(3), movi(2), movi(1))},
		{api.ErrWords, "new", packet(farNeedy, far(1), nop())},
		{api.ErrWords, "new with Dup", dup(api.Inst{Op: api.MovI, D: 1, Mode: api.IfNew, Ext: true}, far(2), movi(3), movi(4))},
		{api.ErrWords, "loop", end1(packet(loop(), far(1), far(2)))},
		{api.ErrWords, "loop with Dup", end0(dup(farJump, far(1), movi(2), movi(3)))},
		{api.ErrBranch, "writes", packet(jump(), jump(), movi(1), movi(1))},
		{api.ErrBranch, "writes with Dup", dup(jump(), jump(), movi(1), movi(1))},
		{api.ErrBranch, "new", packet(jump(), ifNew)},
		{api.ErrBranch, "new with Dup", dup(jump(), ifNew, movi(1), movi(2))},
		{api.ErrBranch, "loop", end0(packet(jump(), jump()))},
		{api.ErrBranch, "few words", end1(packet(jump(), jump()))},
		{api.ErrBranch, "loop with Dup", end1(dup(jump(), jump(), movi(1), movi(2)))},
		{api.ErrWrites, "new", packet(movi(1), movi(1), needy())},
		{api.ErrWrites, "new of what is written", packet(movi(9), movi(9), needy())},
		{api.ErrWrites, "new with Dup", dup(movi(1), movi(1), ifNew)},
		{api.ErrWrites, "loop", end0(packet(movi(1), movi(1), loop()))},
		{api.ErrWrites, "few words", end1(packet(movi(1), movi(1)))},
		{api.ErrWrites, "few words with Dup", end0(dup(movi(1), movi(1)))},
		{api.ErrNew, "loop", end0(packet(ifNew, nop()))},
		{api.ErrNew, "few words", end0(packet(needy()))},
		{api.ErrNew, "few words", end1(packet(needy(), load(9)))},
		{api.ErrNew, "few words with Dup", end1(dup(movi(1), movi(2), api.Inst{Op: api.MovI, D: 8, Mode: api.NotNew}))},
		{api.ErrLoop, "few words", end0(packet(jump()))},
		{api.ErrLoop, "few words with Dup", end1(dup(movi(1), movi(2), loop()))},
	}
}

func TestEachErrorWithEachLaterOne(t *testing.T) {
	for _, two := range twofolds() {
		eachOrder(two.p, func(p api.Packet) {
			if got := legal.Check(p); got != two.want {
				t.Errorf("%d and %s, %+v: %d", two.want, two.later, p, got)
			}
		})
	}
}

func TestFormWithEachLaterError(t *testing.T) {
	for _, two := range twofolds() {
		p := two.p
		p.Raw, p.Dup = true, true
		check(t, api.ErrForm, p)
		if len(two.p.Insts) < 4 {
			check(t, api.ErrForm, beside(two.p, api.Inst{Op: api.Nop, D: 1}))
		}
		five := beside(two.p, repeated(nop(), 5-len(two.p.Insts))...)
		check(t, api.ErrForm, five)
	}
	for flags := range 16 {
		check(t, api.ErrForm, flagged(flags))
	}
}

// P11.3: wrong inputs

func TestNoInstructionOrMoreThanFour(t *testing.T) {
	for n := range 40 {
		want := api.OK
		if n == 0 || n > 4 {
			want = api.ErrForm
		}
		if got := legal.Check(packet(repeated(nop(), n)...)); got != want {
			t.Errorf("%d nops: %d", n, got)
		}
	}
	check(t, api.ErrForm, api.Packet{})
	check(t, api.ErrForm, api.Packet{Insts: list()})
	check(t, api.ErrForm, dup(movi(1), movi(2), movi(3), movi(4), movi(5)))
	check(t, api.ErrForm, packet(load(1), load(2), load(3), storeW(4), storeW(5)))
}

func TestRawAndDup(t *testing.T) {
	for flags := 12; flags < 16; flags++ {
		check(t, api.ErrForm, flagged(flags, nop()))
		check(t, api.ErrForm, flagged(flags, movi(1), movi(2)))
		check(t, api.ErrForm, flagged(flags, movi(1), movi(2), nop(), nop()))
	}
}

func TestInstructionsThatAreNotValid(t *testing.T) {
	for _, wrong := range invalids {
		for flags := range 16 {
			check(t, api.ErrForm, flagged(flags, wrong))
			check(t, api.ErrForm, flagged(flags, wrong, nop()))
			check(t, api.ErrForm, flagged(flags, wrong, movi(1), movi(2)))
			check(t, api.ErrForm, flagged(flags, wrong, wrong, nop(), far(1)))
			check(t, api.ErrForm, flagged(flags, wrong, load(1), load(2), load(3)))
		}
	}
}

// P11.1 to P11.4: packets of many kinds against the chapters' words

func TestPacketsAgainstTheWords(t *testing.T) {
	count := map[api.Errno]int{}
	taken := 0
	eachPacket(func(l []known, p api.Packet) {
		want := wanted(l, p)
		count[want]++
		if got := legal.Check(p); got != want {
			t.Errorf("Check(%+v): %d, not %d", p, got, want)
		}
		takes := wantedTakes(l, p)
		if takes {
			taken++
		}
		if got := legal.Takes(p); got != takes {
			t.Errorf("Takes(%+v): %t", p, got)
		}
		if got, words := legal.Words(p), wantedWords(p); got != words {
			t.Errorf("Words(%+v): %d, not %d", p, got, words)
		}
	})
	for _, e := range []api.Errno{api.OK, api.ErrForm, api.ErrSlots, api.ErrWords, api.ErrBranch, api.ErrWrites, api.ErrNew, api.ErrLoop} {
		if count[e] < 100 {
			t.Errorf("the error %d is told but %d times", e, count[e])
		}
	}
	if taken < 1000 {
		t.Errorf("only %d packets take a duplex", taken)
	}
}

// P11.4

func TestEveryOrder(t *testing.T) {
	k := 0
	for n := range 5 {
		for l := range arrange.Multisets(pool(), n) {
			k++
			p := flagged(k%16, instsOf(l)...)
			check(t, wanted(l, p), p)
			if k%16 < 4 {
				checkTakes(t, wantedTakes(l, p), p)
			}
		}
	}
}

func TestOKWithoutDupIsOKWithRaw(t *testing.T) {
	okay, paired := 0, 0
	eachPacket(func(l []known, p api.Packet) {
		if p.Dup || legal.Check(p) != api.OK {
			return
		}
		okay++
		other := p
		other.Raw = true
		if e := legal.Check(other); e != api.OK {
			t.Errorf("%+v is OK, but with Raw: %d", p, e)
		}
		if !legal.Takes(p) {
			return
		}
		paired++
		other = p
		other.Dup = true
		if e := legal.Check(other); e != api.OK {
			t.Errorf("%+v is OK and takes a duplex, but with Dup: %d", p, e)
		}
	})
	if okay < 1000 || paired < 100 {
		t.Errorf("%d packets are OK, %d of them take a duplex", okay, paired)
	}
}

// R1, R3, R4

func TestVeryManyInstructions(t *testing.T) {
	const many = 1 << 20
	for _, in := range list(nop(), movi(1), far(1), api.Inst{}) {
		for flags := range 16 {
			p := flagged(flags, repeated(in, many)...)
			i, j, ok := legal.Choose(p.Insts)
			if i != 0 || j != 0 || ok || legal.Takes(p) || legal.Check(p) != api.ErrForm || legal.Words(p) < many-1 {
				t.Errorf("2^20 of %+v with the flags %d", in, flags)
			}
		}
	}
}

func TestInstructionsStayAsTheyAre(t *testing.T) {
	eachPacket(func(l []known, p api.Packet) {
		room := append(slices.Clone(p.Insts), load(9), api.Inst{Op: 77}, movi(10), nop(), movi(1))
		kept := slices.Clone(room)
		p.Insts = room[:len(p.Insts)]
		legal.Words(p)
		legal.Choose(p.Insts)
		legal.Takes(p)
		legal.Check(p)
		if !slices.Equal(room, kept) {
			t.Errorf("%+v became %+v", kept, room)
		}
	})
}

func TestResultsAreTheSameEachTime(t *testing.T) {
	for range 3 {
		TestExamples(t)
		TestPacketsThatAreOK(t)
		TestChooseOfSeveralPairs(t)
		TestTakesAtTheEndOfLoops(t)
		TestEachErrorWithEachLaterOne(t)
	}
}
