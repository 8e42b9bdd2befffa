package legal_test

import (
	"slices"
	"testing"

	"coxless/api"
	"coxless/arrange"
	"coxless/legal"
)

// P11.1: Words

func TestWords(t *testing.T) {
	for n := range 5 {
		for extended := range n + 1 {
			l := slices.Concat(repeated(far(1), extended), repeated(nop(), n-extended))
			for flags := range 16 {
				p := flagged(flags, l...)
				want := n + extended
				if p.Dup {
					want--
				}
				eachOrder(p, func(p api.Packet) {
					if got := legal.Words(p); got != want {
						t.Errorf("Words(%+v): %d, not %d", p, got, want)
					}
				})
			}
		}
	}
}

// The number of words asks neither whether the packet is legal, nor whether its instructions are valid.
func TestWordsOfWrongPackets(t *testing.T) {
	checkWords(t, 0, api.ErrForm, packet())
	checkWords(t, 0, api.ErrForm, api.Packet{Insts: list()})
	checkWords(t, -1, api.ErrForm, dup())
	checkWords(t, 0, api.ErrSlots, dup(movi(1)))
	checkWords(t, 1, api.ErrSlots, dup(far(1)))
	checkWords(t, 1, api.ErrForm, packet(api.Inst{}))
	checkWords(t, 2, api.ErrForm, packet(api.Inst{Ext: true}))
	checkWords(t, 2, api.ErrForm, packet(api.Inst{Op: api.Nop, Ext: true}))
	checkWords(t, 5, api.ErrForm, packet(repeated(nop(), 5)...))
	checkWords(t, 9, api.ErrForm, dup(repeated(far(1), 5)...))
	checkWords(t, 1, api.ErrForm, api.Packet{Insts: list(movi(0), movi(1)), Raw: true, Dup: true})
	checkWords(t, 8, api.ErrWords, packet(far(1), far(2), far(3), far(4)))
}

// P11.1: Choose

func TestChooseWhereThePairIs(t *testing.T) {
	checkChoose(t, 0, 1, true, movi(1), movi(2))
	checkChoose(t, 0, 1, true, movi(1), movi(2), jump(), loop())
	checkChoose(t, 0, 2, true, movi(1), jump(), movi(2), loop())
	checkChoose(t, 0, 3, true, movi(1), jump(), loop(), movi(2))
	checkChoose(t, 1, 2, true, jump(), movi(1), movi(2), loop())
	checkChoose(t, 1, 3, true, jump(), movi(1), loop(), movi(2))
	checkChoose(t, 2, 3, true, jump(), loop(), movi(1), movi(2))
	checkChoose(t, 1, 2, true, shift(1), storeW(2), load(3), big(4))
	checkChoose(t, 0, 1, true, movi(1), movi(2), nop())
	checkChoose(t, 0, 2, true, movi(1), nop(), movi(2))
	checkChoose(t, 1, 2, true, nop(), movi(1), movi(2))
}

func TestChooseOfSeveralPairs(t *testing.T) {
	checkChoose(t, 0, 1, true, movi(1), movi(2), movi(3))
	checkChoose(t, 0, 1, true, movi(1), movi(2), movi(3), movi(4))
	checkChoose(t, 0, 1, true, load(1), load(2), movi(3), movi(4))
	checkChoose(t, 0, 1, true, storeW(1), load(2), movi(3), movi(4))
	checkChoose(t, 0, 2, true, movi(1), nop(), movi(2), movi(3))
	checkChoose(t, 1, 2, true, nop(), movi(1), movi(2), movi(3))
	// The others of the pairs before these have no slots out of 2 and 3.
	checkChoose(t, 0, 2, true, movi(1), movi(2), storeW(3))
	checkChoose(t, 0, 2, true, movi(1), movi(2), load(3), nop())
	checkChoose(t, 0, 3, true, load(1), movi(2), movi(3), load(4))
	checkChoose(t, 1, 2, true, movi(1), load(2), load(3))
	checkChoose(t, 1, 3, true, movi(1), load(2), movi(3), storeW(4))
	checkChoose(t, 2, 3, true, movi(1), movi(2), load(3), storeW(4))
	checkChoose(t, 0, 2, true, load(1), far(2), storeW(3), movi(4))
}

// othersThat may stand beside a duplex, or may not; none of them has a small instruction.
var othersThat = []struct {
	fit    bool
	others []api.Inst
}{
	{true, nil},
	{true, list(nop())}, {true, list(far(3))}, {true, list(shift(3))}, {true, list(jump())}, {true, list(loop())},
	{true, list(nop(), nop())}, {true, list(nop(), shift(3))}, {true, list(nop(), jump())}, {true, list(far(3), loop())},
	{true, list(shift(3), shift(4))}, {true, list(shift(3), jump())}, {true, list(shift(3), loop())}, {true, list(jump(), loop())},
	{true, list(jump(), jump())},
	{false, list(load(9))}, {false, list(needy())}, {false, list(api.Inst{Op: api.StH})}, {false, list(api.Inst{Op: api.LdB, D: 8})},
	{false, list(nop(), load(9))}, {false, list(shift(3), needy())}, {false, list(load(9), load(10))},
	{false, list(loop(), loop())}, {false, list(loop(), api.Inst{Op: api.LoopR, N: 1})},
	{false, list(api.Inst{})}, {false, list(nop(), api.Inst{Op: api.Add, Mode: 5})}, {false, list(api.Inst{Op: api.MovI, Imm: 8192})},
	{false, list(nop(), nop(), nop())},
}

// twosThat have a duplex, or do not.
var twosThat = []struct {
	pair bool
	a, b api.Inst
}{
	{true, movi(0), movi(1)}, {true, movi(1), movi(1)}, {true, load(1), load(2)}, {true, load(1), storeW(1)}, {true, movi(1), storeW(1)},
	{true, api.Inst{Op: api.CmpEqI, S: 16}, api.Inst{Op: api.Mov, D: 23, S: 7}},
	{true, api.Inst{Op: api.AddI, D: 5, S: 5, Imm: 63}, api.Inst{Op: api.Add, D: 4, S: 4, T: 4}},
	{true, api.Inst{Op: api.LdB, D: 1, Imm: 7}, api.Inst{Op: api.StB, Imm: 7}},
	{false, storeW(1), storeW(2)}, {false, storeW(1), api.Inst{Op: api.StB}},
	{false, movi(0), nop()}, {false, nop(), nop()}, {false, movi(0), movi(8)}, {false, movi(0), far(1)}, {false, movi(0), big(1)},
	{false, movi(0), shift(1)}, {false, movi(0), jump()}, {false, load(1), api.Inst{Op: api.LdH}},
	{false, movi(0), api.Inst{Op: api.MovI, D: 1, Imm: 128}}, {false, movi(0), api.Inst{Op: api.MovI, D: 1, Mode: api.If}},
	{false, movi(0), api.Inst{Op: api.MovI, D: 1, Ext: true}}, {false, movi(0), needy()},
	{false, movi(0), api.Inst{}}, {false, movi(0), api.Inst{Op: api.MovI, D: 1, Pred: 1}}, {false, movi(0), api.Inst{Op: api.StW, N: 1}},
}

func TestPairsAndOthers(t *testing.T) {
	for _, two := range twosThat {
		for _, rest := range othersThat {
			l := slices.Concat(list(two.a, two.b), rest.others)
			eachOrder(packet(l...), func(p api.Packet) {
				_, _, ok := legal.Choose(p.Insts)
				if ok != (two.pair && rest.fit) {
					t.Errorf("Choose(%+v): %t", p.Insts, ok)
				}
			})
		}
	}
}

func TestChooseOfTooFewOrTooMany(t *testing.T) {
	checkNoPair(t)
	checkNoPair(t, movi(1))
	checkNoPair(t, nop(), nop())
	for n := 5; n < 40; n++ {
		checkChoose(t, 0, 0, false, repeated(movi(1), n)...)
	}
	checkChoose(t, 0, 0, false, movi(1), movi(2), shift(1), loop(), nop())
	checkChoose(t, 0, 0, false, movi(1), movi(2), api.Inst{}, api.Inst{}, api.Inst{})
}

// invalids are instructions that are not valid, most of them in one thing alone: were it passed over, many would have a duplex, and each but those without an op a slot.
var invalids = []api.Inst{
	{}, {Op: 32}, {Op: 255}, {Op: api.Nop, D: 1}, {Op: api.Nop, Ext: true},
	{Op: api.MovI, D: 32}, {Op: api.MovI, D: 1, S: 1}, {Op: api.MovI, D: 1, Pred: 1}, {Op: api.MovI, D: 1, Mode: 5}, {Op: api.MovI, D: 1, Count: 1},
	{Op: api.MovI, D: 1, Imm: 8192}, {Op: api.MovI, D: 1, Imm: 1 << 32}, {Op: api.MovI, D: 1, Imm: 1 << 31, Ext: true}, {Op: api.Mov, D: 1, Imm: 1},
	{Op: api.Add, D: 1, S: 1, T: 32}, {Op: api.Add, D: 1, S: 1, N: 1}, {Op: api.CmpEqI, D: 4}, {Op: api.Asl, Imm: 32}, {Op: api.Asl, Ext: true},
	{Op: api.Mpy, D: 40}, {Op: api.Jump, Imm: 2}, {Op: api.Call, D: 31}, {Op: api.LoopI, N: 2}, {Op: api.LoopR, Count: 1},
	{Op: api.LdW, Imm: 2}, {Op: api.LdB, D: 1, New: true}, {Op: api.StW, D: 1}, {Op: api.StB, T: 32},
}

func TestChooseWithInstructionsThatAreNotValid(t *testing.T) {
	for _, wrong := range invalids {
		checkNoPair(t, wrong)
		checkNoPair(t, wrong, wrong)
		checkNoPair(t, wrong, movi(1))
		checkNoPair(t, wrong, movi(1), movi(2))
		checkNoPair(t, wrong, movi(1), movi(2), nop())
		checkNoPair(t, wrong, movi(1), movi(2), movi(3))
	}
}

func TestChooseAgainstTheWords(t *testing.T) {
	all := pool()
	count := map[[2]int]int{}
	ask := func(l ...known) {
		want, some := [2]int{}, pairs(l)
		if len(some) > 0 {
			want = some[0]
		}
		count[want]++
		checkChoose(t, want[0], want[1], len(some) > 0, instsOf(l)...)
	}
	for _, a := range all {
		for _, b := range all {
			ask(a, b)
			for _, c := range all {
				ask(a, b, c)
			}
		}
	}
	k := 0
	for l := range arrange.Multisets(pool(), 4) {
		// Of each set another order; the orders of one set are tried with Check.
		k++
		turned := slices.Concat(l[k%4:], l[:k%4])
		if k%8 > 3 {
			turned[1], turned[2] = turned[2], turned[1]
		}
		ask(turned...)
	}
	for _, pair := range [][2]int{{0, 0}, {0, 1}, {0, 2}, {0, 3}, {1, 2}, {1, 3}, {2, 3}} {
		if count[pair] < 50 {
			t.Errorf("the pair %v is told but %d times", pair, count[pair])
		}
	}
}

// P11.2

func TestTakes(t *testing.T) {
	checkTakes(t, true, packet(movi(0), movi(1)))
	checkTakes(t, true, packet(movi(0), storeW(1), big(2)))
	checkTakes(t, true, packet(movi(0), movi(1), jump(), loop()))
	checkTakes(t, true, packet(movi(0), movi(1), far(2), nop()))
	checkTakes(t, false, packet(movi(0), big(1)))
	checkTakes(t, false, packet(storeW(0), storeW(1)))
	checkTakes(t, false, packet(movi(0), movi(1), load(9)))
	checkTakes(t, false, packet(movi(0), load(1), storeW(2), load(3)))
	checkTakes(t, false, packet(nop()))
	checkTakes(t, false, packet(movi(0)))
}

// What the promise does not name does not count: neither Dup, which is set anyhow, nor too many words, nor what layer 10 forbids.
func TestTakesAsksNothingElse(t *testing.T) {
	checkTakes(t, true, dup(movi(0), movi(1)))
	checkTakes(t, true, packet(movi(0), movi(1), far(2), far(3)))
	checkTakes(t, true, packet(movi(1), movi(1)))
	checkTakes(t, true, packet(movi(0), movi(1), jump(), jump()))
	checkTakes(t, true, packet(movi(0), movi(1), api.Inst{Op: api.Jump, Mode: api.IfNew}))
	checkTakes(t, true, end0(packet(movi(0), movi(1), jump())))
}

func TestTakesWithRaw(t *testing.T) {
	for flags := range 4 {
		checkTakes(t, false, flagged(flags|4, movi(0), movi(1), nop(), nop()))
		checkTakes(t, false, flagged(flags|4|8, movi(0), movi(1), nop(), nop()))
	}
	checkTakes(t, false, raw(nop()))
	checkTakes(t, false, raw())
}

// checkTakesOfEnds asks for End0, End1 and both.
func checkTakesOfEnds(t *testing.T, takes0, takes1 bool, p api.Packet) {
	t.Helper()
	checkTakes(t, true, p)
	checkTakes(t, takes0, end0(p))
	checkTakes(t, takes1, end1(p))
	checkTakes(t, takes1, end0(end1(p)))
}

func TestTakesAtTheEndOfLoops(t *testing.T) {
	for _, p := range []api.Packet{packet(), dup()} {
		checkTakesOfEnds(t, false, false, beside(p, movi(0), movi(1)))
		checkTakesOfEnds(t, true, false, beside(p, movi(0), movi(1), nop()))
		checkTakesOfEnds(t, true, true, beside(p, movi(0), movi(1), far(2)))
		checkTakesOfEnds(t, true, true, beside(p, movi(0), movi(1), nop(), nop()))
		checkTakesOfEnds(t, true, true, beside(p, movi(0), movi(1), nop(), far(2)))
	}
	for _, p := range ends(packet(far(1), far(2), nop(), nop())) {
		checkTakes(t, false, p)
	}
}

func TestTakesOfWrongPackets(t *testing.T) {
	for flags := range 16 {
		checkTakes(t, false, flagged(flags))
		checkTakes(t, false, flagged(flags, repeated(movi(1), 5)...))
		for _, wrong := range invalids {
			checkTakes(t, false, flagged(flags, wrong))
			checkTakes(t, false, flagged(flags, wrong, movi(1), movi(2)))
		}
	}
}
