package unpack_test

import (
	"iter"
	"maps"
	"regexp"
	"slices"
	"strconv"
	"testing"

	"coxless/api"
	"coxless/arrange"
	"coxless/legal"
	"coxless/pack"
	"coxless/unpack"
)

// home is the address at which the pool's words are decoded.
const home = 0x1000

// A known is a word, the parse bits 0, with what the document says that it encodes at home, worked out by hand: alone, behind an extender of the upper part 0, and as a duplex; the Op is 0 where it encodes nothing. A word with the code 0 is an extender.
type known struct {
	w, parse        uint32
	alone, extended api.Inst
	upper, lower    api.Inst
}

// pool has words of each class, ones that encode nothing, and ones that encode different things by what is ahead of them and by their parse bits.
func pool() []known {
	and := func(mode, s, t uint8) api.Inst { return api.Inst{Op: api.And, Mode: mode, S: s, T: t} }
	return []known{
		{w: 0x00000000},
		{w: 0x00483456},
		{w: 0x04000000, alone: nop()},
		{w: 0x04000001},
		{w: 0x20020001, alone: movi(2, 1), extended: far(2, 1)},
		{w: 0x11000800, alone: and(api.IfNot, 4, 0), upper: movi(1, 0), lower: movi(0, 0)},
		{w: 0x10000880, alone: and(api.Always, 4, 8), upper: movi(0, 0), lower: movi(1, 0)},
		{w: 0x10003000, alone: and(api.Always, 24, 0), upper: movi(0, 0), lower: api.Inst{Op: api.StW}},
		{w: 0x54c70000, alone: load(6, 0), extended: api.Inst{Op: api.LdW, D: 6, S: 7, Ext: true}, upper: api.Inst{Op: api.LdW, D: 4, S: 20, Imm: 12}, lower: api.Inst{Op: api.StB}},
		{w: 0x60000800, alone: api.Inst{Op: api.StW, Imm: 4096}},
		{w: 0x6c000004, alone: jump(home + 16), extended: farJump(home + 4)},
		{w: 0x719f0000, alone: api.Inst{Op: api.JumpR, Mode: api.IfNew, S: 31}, upper: api.Inst{Op: api.LdB, D: 1, S: 17, Imm: 7}, lower: api.Inst{Op: api.StB}},
		{w: 0x34200000, alone: api.Inst{Op: api.CmpEqI, S: 4}, extended: api.Inst{Op: api.CmpEqI, S: 4, Ext: true}},
		{w: 0x7b800009, alone: api.Inst{Op: api.LoopI, N: 1, Count: 9}},
	}
}

func isExtender(k known) bool { return k.w < 0x04000000 }

// letter tells how a word may stand: e as an extender, p alone, b alone or behind an extender, d as a duplex, and n not at all.
func letter(k known) string {
	switch {
	case k.parse == 0 && k.upper.Op != 0:
		return "d"
	case k.parse == 0:
		return "n"
	case isExtender(k):
		return "e"
	case k.extended.Op != 0:
		return "b"
	case k.alone.Op != 0:
		return "p"
	}
	return "n"
}

var (
	encodes = regexp.MustCompile("^(e?b|p)*(e?b|p|d)$")
	parses  = regexp.MustCompile("^[12]?[12]?1?[03]$")
)

// spell tells how the words may stand, and their parse bits.
func spell(l []known) (letters, parse string) {
	for _, k := range l {
		letters += letter(k)
		parse += strconv.Itoa(int(k.parse))
	}
	return letters, parse
}

// told lists the instructions of words that encode a packet.
func told(l []known) []api.Inst {
	var insts []api.Inst
	for i, k := range l {
		extended := i > 0 && isExtender(l[i-1])
		switch {
		case isExtender(k):
		case k.parse == 0:
			insts = append(insts, k.upper, k.lower)
		case extended:
			in := k.extended
			in.Imm += int64(l[i-1].w/65536%1024*16384+l[i-1].w%16384) * 256
			insts = append(insts, in)
		default:
			insts = append(insts, k.alone)
		}
	}
	return insts
}

// wanted takes from layer 11 which of its errors applies.
func wanted(l []known) (api.Packet, api.Errno) {
	letters, parse := spell(l)
	if !encodes.MatchString(letters) || !parses.MatchString(parse) {
		return api.Packet{}, api.ErrForm
	}
	p := packet(told(l)...)
	p.End0 = parse[0] == '2'
	p.End1 = len(parse) > 1 && parse[1] == '2'
	p.Dup = l[len(l)-1].parse == 0
	p.Raw = !p.Dup && len(p.Insts) > 1
	if e := legal.Check(p); e != api.OK {
		return api.Packet{}, e
	}
	return p, api.OK
}

func wordsOf(l []known) []uint32 {
	all := make([]uint32, len(l))
	for i, k := range l {
		all[i] = k.w | k.parse*16384
	}
	return all
}

// with lists the pool with each of these parse bits.
func with(parses ...uint32) []known {
	var all []known
	for _, k := range pool() {
		for _, k.parse = range parses {
			all = append(all, k)
		}
	}
	return all
}

// packets yields each n words of the pool of which the last one alone ends a packet.
func packets(n int) iter.Seq[[]known] {
	return func(yield func([]known) bool) {
		ahead(n-1, nil, with(1, 2), with(3, 0), yield)
	}
}

// ahead yields l with each n words more, which do not end a packet, and each last one; it is false if no more are wanted.
func ahead(n int, l, more, last []known, yield func([]known) bool) bool {
	next := more
	if n == 0 {
		next = last
	}
	for _, k := range next {
		longer := append(slices.Clone(l), k)
		if n == 0 && !yield(longer) || n > 0 && !ahead(n-1, longer, more, last, yield) {
			return false
		}
	}
	return true
}

// P13.2 and P13.3: all words of the pool

func TestAllWordsOfThePool(t *testing.T) {
	tried := map[api.Errno]int{}
	canonical := 0
	for n := 1; n <= 4; n++ {
		for l := range packets(n) {
			all := wordsOf(l)
			p, e := wanted(l)
			tried[e]++
			if e != api.OK {
				checkError(t, e, home, all...)
				continue
			}
			own, e := pack.Words(p, home)
			if e != api.OK {
				t.Errorf("Words(%+v): %d", p, e)
			}
			isOwn := slices.Equal(all, own)
			checkBoth(t, all, home, p, isOwn)
			if isOwn {
				canonical++
			}
		}
	}
	for _, e := range []api.Errno{api.OK, api.ErrForm, api.ErrSlots, api.ErrBranch, api.ErrWrites, api.ErrNew, api.ErrLoop} {
		if tried[e] < 100 {
			t.Errorf("%d packets with the error %d", tried[e], e)
		}
	}
	if canonical < 1000 || canonical > tried[api.OK]-1000 {
		t.Errorf("%d canonical of %d", canonical, tried[api.OK])
	}
}

// P13.4

// insts are instructions of each class and of each small instruction, which may be written beside each other; of some, the value needs an extender, or fits with and without one.
func insts() []api.Inst {
	return []api.Inst{
		nop(), add(8), movi(1, 5), movi(2, 127), movi(3, -1), far(4, 5), far(5, 0x12345678),
		{Op: api.AddI, D: 6, S: 6, Imm: -64}, {Op: api.Add, D: 7, S: 7, T: 16}, {Op: api.Mov, D: 16, S: 23}, {Op: api.CmpEqI, S: 23, Imm: 127},
		{Op: api.MovI, D: 9, Mode: api.If, Imm: 1}, {Op: api.MovI, D: 9, Mode: api.IfNot, Imm: -(1 << 31), Ext: true}, {Op: api.Mov, D: 10, Mode: api.NotNew, S: 1},
		shift(17), {Op: api.CmpyC, D: 18, S: 1, T: 2},
		load(19, 28), {Op: api.LdB, D: 20, S: 0, Imm: 7}, {Op: api.LdH, D: 11, Imm: 0x1001, Ext: true},
		storeW(2, 0), {Op: api.StB, S: 16, T: 1, Imm: 7}, {Op: api.StH, New: true, T: 8, Imm: -2},
		jump(home - 8), {Op: api.Call, Ext: true}, {Op: api.JumpR, Mode: api.IfNew, S: 31},
		loop(home+8188, 2047), {Op: api.LoopR, Imm: 1<<32 - 4, N: 1, S: 2, Ext: true},
	}
}

func counts(l []api.Inst) map[api.Inst]int {
	all := map[api.Inst]int{}
	for _, in := range l {
		all[in]++
	}
	return all
}

// flagged sets End0, End1, Raw and Dup by the bits of flags.
func flagged(flags int, insts []api.Inst) api.Packet {
	return api.Packet{Insts: insts, End0: flags&1 != 0, End1: flags&2 != 0, Raw: flags&4 != 0, Dup: flags&8 != 0}
}

// checkBack asks for what P13.4 promises of the words of a legal packet.
func checkBack(t *testing.T, p api.Packet) {
	t.Helper()
	l, e := pack.Words(p, home)
	if e != api.OK {
		t.Errorf("Words(%+v): %d", p, e)
	}
	got, ok := unpack.Canonical(l, home)
	raw := !p.Dup && len(p.Insts) > 1
	if !ok || !maps.Equal(counts(got.Insts), counts(p.Insts)) || got.End0 != p.End0 || got.End1 != p.End1 || got.Dup != p.Dup || got.Raw != raw {
		t.Errorf("Canonical(%08x), the words of %+v: %+v, %t", l, p, got, ok)
	}
	checkBoth(t, l, home, got, true)
}

func TestThereAndBack(t *testing.T) {
	tried := map[int]int{}
	for n := range 5 {
		for l := range arrange.Multisets(insts(), n) {
			// From 12 on both Raw and Dup are set.
			for flags := range 12 {
				if p := flagged(flags, l); legal.Check(p) == api.OK {
					tried[flags]++
					checkBack(t, p)
				}
			}
		}
	}
	for flags := range 12 {
		if tried[flags] < 100 {
			t.Errorf("%d packets with the flags %d", tried[flags], flags)
		}
	}
}

// The rules R1, R2, R3 and R4

// TestAnyArgumentsEnd takes canonical words, of which it then changes one bit after the other, and words of any bits.
func TestAnyArgumentsEnd(t *testing.T) {
	seed := uint64(1)
	next := func() uint32 {
		seed = seed*6364136223846793005 + 1442695040888963407
		return uint32(seed >> 32)
	}
	all := insts()
	found := map[bool]int{}
	for range 40000 {
		l := words(next(), next(), next(), next(), next())[:next()%6]
		p := packet(all[next()%uint32(len(all))], all[next()%uint32(len(all))])
		if own, e := pack.Words(p, home); e == api.OK && next()%8 != 0 {
			l = own
		}
		pc := next()
		for i := range l {
			checkAny(t, l, pc, found)
			l[i] ^= 1 << (next() % 32)
		}
		checkAny(t, l, pc, found)
	}
	if found[true] < 1000 || found[false] < 1000 {
		t.Errorf("%v", found)
	}
}

// checkAny asks of what Packet and Canonical tell that the one goes with the other, and with layers 11 and 12.
func checkAny(t *testing.T, l []uint32, pc uint32, found map[bool]int) {
	t.Helper()
	n, ends := unpack.Length(l)
	p, e := unpack.Packet(l, pc)
	own, isOwn := unpack.Canonical(l, pc)
	found[isOwn]++
	if (e == api.ErrArg) != (!ends || n != len(l)) || e != api.OK && !same(p, api.Packet{}) || e == api.OK && legal.Check(p) != api.OK {
		t.Errorf("Packet(%08x, %#x): %+v, %d", l, pc, p, e)
	}
	coded, _ := pack.Words(p, pc)
	if isOwn != (e == api.OK && slices.Equal(coded, l)) || isOwn && !same(own, p) || !isOwn && !same(own, api.Packet{}) {
		t.Errorf("Canonical(%08x, %#x): %+v, %t", l, pc, own, isOwn)
	}
}

func lists() [][]uint32 {
	return [][]uint32{
		{0x0400c000}, {0x08018430, 0x2004c005}, {0x20044005, 0x0801c430}, {0x00487456, 0x2001c078}, {0x120c0885}, {0x110a0906},
		{0x08044430, 0x00004001, 0x20034000, 0x120c0885}, {0x00487456, 0x0400c000}, {0x04004000, 0x04004000, 0x04004000, 0x04004000}, {0x20014005, 0x2001c005},
	}
}

func TestArgumentsStayAsTheyAre(t *testing.T) {
	for _, l := range lists() {
		spare := slices.Concat(l, words(1, 2, 3, 4))
		for n := range len(spare) {
			passed := slices.Clone(spare)
			unpack.Length(passed[:n])
			unpack.Packet(passed[:n], 0)
			unpack.Canonical(passed[:n], 0)
			if !slices.Equal(passed, spare) {
				t.Errorf("%d passed of %08x: %08x", n, spare, passed)
			}
		}
	}
}

func TestResultsAreNewMemory(t *testing.T) {
	for _, l := range lists() {
		passed := slices.Clone(l)
		p, wasE := unpack.Packet(passed, 0)
		own, wasOk := unpack.Canonical(passed, 0)
		was, wasOwn := p, own
		was.Insts, wasOwn.Insts = slices.Clone(p.Insts), slices.Clone(own.Insts)
		clear(p.Insts[:cap(p.Insts)])
		if !same(own, wasOwn) {
			t.Errorf("Canonical(%08x) after the result of Packet was cleared: %+v", l, own)
		}
		clear(own.Insts[:cap(own.Insts)])
		again, e := unpack.Packet(passed, 0)
		ownAgain, ok := unpack.Canonical(passed, 0)
		if !slices.Equal(passed, l) || e != wasE || ok != wasOk || !same(again, was) || !same(ownAgain, wasOwn) {
			t.Errorf("%08x after the results were cleared: %+v, %d, %+v, %t", l, again, e, ownAgain, ok)
		}
		// Nothing of the words is kept.
		clear(passed)
		if !same(again, was) || !same(ownAgain, wasOwn) {
			t.Errorf("%08x after they were cleared: %+v, %+v", l, again, ownAgain)
		}
	}
}
