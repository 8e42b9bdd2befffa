package rules_test

import (
	"slices"
	"testing"

	"coxless/api"
	"coxless/arrange"
	"coxless/rules"
)

// check asks for the packet in every order of its instructions.
func check(t *testing.T, want api.Errno, p api.Packet) {
	t.Helper()
	for p.Insts = range arrange.Orders(p.Insts) {
		if got := rules.Check(p); got != want {
			t.Errorf("Check(%+v): %d, not %d", p, got, want)
		}
	}
}

func checkClash(t *testing.T, want bool, a, b api.Inst) {
	t.Helper()
	if got := rules.Clash(a, b); got != want {
		t.Errorf("Clash(%+v, %+v): %t", a, b, got)
	}
	if got := rules.Clash(b, a); got != want {
		t.Errorf("Clash(%+v, %+v): %t", b, a, got)
	}
}

// The examples of the chapter

func TestExamples(t *testing.T) {
	check(t, api.OK, packet(add(1, 0, 0), add(2, 0, 0)))
	check(t, api.ErrWrites, packet(add(1, 0, 0), add(1, 0, 0)))
	check(t, api.OK, packet(add(1, api.If, 0), add(1, api.IfNot, 0)))

	check(t, api.ErrWrites, packet(add(1, api.If, 0), add(1, api.NotNew, 0)))
	check(t, api.ErrWrites, packet(add(1, api.If, 0), add(1, api.IfNot, 1)))
	check(t, api.ErrWrites, packet(add(1, api.If, 0), add(1, api.IfNot, 0), add(1, api.If, 0)))

	check(t, api.OK, packet(compare(0), jump(api.IfNew, 0)))
	check(t, api.ErrNew, packet(jump(api.IfNew, 0)))
	check(t, api.ErrBranch, packet(jump(0, 0), jump(0, 0)))

	check(t, api.OK, packet(add(1, 0, 0), storeNew(1)))
	check(t, api.ErrNew, packet(load(1), storeNew(1)))
	check(t, api.ErrNew, packet(api.Inst{Op: api.MovI, D: 1, Mode: api.If}, storeNew(1)))

	check(t, api.OK, api.Packet{Insts: []api.Inst{nop()}, End0: true})
	check(t, api.ErrLoop, api.Packet{Insts: []api.Inst{jump(0, 0)}, End0: true})
	check(t, api.ErrLoop, api.Packet{Insts: []api.Inst{{Op: api.LoopI}}, End1: true})
}

// P10.1

func TestClashByHand(t *testing.T) {
	checkClash(t, true, add(1, 0, 0), add(1, 0, 0))
	checkClash(t, false, add(1, 0, 0), add(2, 0, 0))
	checkClash(t, true, add(0, 0, 0), load(0))
	checkClash(t, true, add(31, 0, 0), api.Inst{Op: api.Call})
	checkClash(t, true, api.Inst{Op: api.Call}, api.Inst{Op: api.Call, Imm: 4})
	checkClash(t, false, add(0, 0, 0), api.Inst{Op: api.Call})
	checkClash(t, true, compare(3), api.Inst{Op: api.CmpEqI, D: 3})
	checkClash(t, false, compare(3), api.Inst{Op: api.CmpEqI, D: 2})
	checkClash(t, false, compare(1), add(1, 0, 0))
	checkClash(t, false, compare(0), nop())
	checkClash(t, false, nop(), nop())
	checkClash(t, false, jump(0, 0), jump(0, 0))
	checkClash(t, false, storeNew(1), storeNew(1))
	checkClash(t, false, storeNew(1), add(1, 0, 0))
	checkClash(t, false, loops[0], loops[0])
	checkClash(t, true, add(1, api.If, 0), api.Inst{Op: api.Mux, D: 1})
	checkClash(t, true, add(1, api.IfNot, 0), load(1))
}

func TestClashOfEachTwoModes(t *testing.T) {
	opposite := [5][5]bool{1: {2: true}, 2: {1: true}, 3: {4: true}, 4: {3: true}}
	for m := range uint8(5) {
		for n := range uint8(5) {
			for pred := range uint8(4) {
				a, b := add(9, m, 0), add(9, n, 0)
				if m > 0 {
					a.Pred = 2
				}
				if n > 0 {
					b.Pred = pred
				}
				checkClash(t, !(opposite[m][n] && pred == 2), a, b)
				b.D = 8
				checkClash(t, false, a, b)
			}
		}
	}
}

// writers are instructions of each op with some destinations, modes and predicates.
func writers() []api.Inst {
	var all []api.Inst
	for _, l := range table {
		dests := map[string][]uint8{"": {0}, "31": {0}, "D": {0, 1, 3, 31}, "DP": {0, 1, 3}}[l.dest]
		for _, d := range dests {
			all = append(all, api.Inst{Op: l.op, D: d})
			for mode := uint8(1); mode <= 4 && l.cond; mode++ {
				for _, pred := range []uint8{0, 1, 3} {
					all = append(all, api.Inst{Op: l.op, D: d, Mode: mode, Pred: pred})
				}
			}
		}
	}
	return all
}

func TestClashOfEachTwoOps(t *testing.T) {
	all := writers()
	count := 0
	for i, a := range all {
		for _, b := range all[:i+1] {
			want := wantsClash(a, b)
			checkClash(t, want, a, b)
			if want {
				count++
			}
		}
	}
	if count < 1000 {
		t.Errorf("only %d of the pairs clash", count)
	}
}

func TestClashOfEachTwoDestinations(t *testing.T) {
	for d := range uint8(32) {
		for e := range uint8(32) {
			checkClash(t, d == e, add(d, 0, 0), load(e))
			checkClash(t, false, add(d, 0, 0), compare(e%4))
			checkClash(t, d%4 == e%4, compare(d%4), compare(e%4))
			checkClash(t, e == 31, api.Inst{Op: api.Call, Imm: int64(4 * d)}, add(e, 0, 0))
		}
	}
}

func TestClashOfInstructionsThatAreNotValid(t *testing.T) {
	for _, a := range wrongs {
		for _, b := range wrongs {
			checkClash(t, false, a, b)
		}
		for _, b := range writers() {
			checkClash(t, false, a, b)
		}
	}
	checkClash(t, false, add(40, 0, 0), add(40, 0, 0))
	checkClash(t, false, api.Inst{Op: api.CmpEq, D: 4}, api.Inst{Op: api.CmpEq, D: 4})
	checkClash(t, false, add(1, 5, 0), add(1, 0, 0))
}

// P10.2: ordinary packets

func TestPacketsThatAreOK(t *testing.T) {
	check(t, api.OK, packet(nop()))
	check(t, api.OK, packet(jump(0, 0)))
	check(t, api.OK, packet(load(1), storeNew(2), add(2, 0, 0)))
	check(t, api.OK, packet(nop(), nop(), nop(), nop()))
	check(t, api.OK, packet(add(1, 0, 0), add(2, 0, 0), load(3), load(4)))
	check(t, api.OK, packet(compare(0), compare(1), compare(2), compare(3)))
	check(t, api.OK, packet(compare(0), add(1, api.IfNew, 0), add(1, api.NotNew, 0), jump(api.IfNew, 0)))
	check(t, api.OK, packet(add(1, api.If, 3), add(1, api.IfNot, 3), add(2, api.IfNot, 3), add(2, api.If, 3)))
	check(t, api.OK, packet(api.Inst{Op: api.Call}, loops[0], compare(0), add(30, 0, 0)))
	check(t, api.OK, packet(api.Inst{Op: api.MovI, D: 1, Imm: 1 << 20, Ext: true}, storeNew(1), compare(1), jump(api.NotNew, 1)))
}

func TestRawOrDupAlone(t *testing.T) {
	check(t, api.OK, api.Packet{Insts: []api.Inst{nop()}, Raw: true})
	check(t, api.OK, api.Packet{Insts: []api.Inst{nop()}, Dup: true})
	check(t, api.ErrWrites, api.Packet{Insts: []api.Inst{load(1), load(1)}, Raw: true})
	check(t, api.ErrWrites, api.Packet{Insts: []api.Inst{load(1), load(1)}, Dup: true})
}

func TestTwoThatWriteOneThing(t *testing.T) {
	for reg := range uint8(32) {
		check(t, api.ErrWrites, packet(add(reg, 0, 0), load(reg), nop()))
		check(t, api.OK, packet(add(reg, 0, 0), load((reg+1)%32), nop()))
	}
	for pred := range uint8(4) {
		check(t, api.ErrWrites, packet(compare(pred), api.Inst{Op: api.CmpEqI, D: pred}))
		check(t, api.OK, packet(compare(pred), api.Inst{Op: api.CmpEqI, D: (pred + 1) % 4}))
	}
	check(t, api.ErrWrites, packet(api.Inst{Op: api.Call}, load(31)))
	check(t, api.ErrWrites, packet(nop(), load(1), nop(), load(1)))
}

// P10.2: the edges

// asking is a packet of two instructions beside those that write the predicates 2 and pred.
func asking(a, b api.Inst, pred uint8) api.Packet {
	if pred == 2 {
		return packet(a, b, compare(2), nop())
	}
	return packet(a, b, compare(2), compare(pred))
}

func TestModesOfTwoThatWriteOneRegister(t *testing.T) {
	for m := uint8(1); m <= 4; m++ {
		for n := uint8(1); n <= 4; n++ {
			for pred := range uint8(4) {
				a, b := add(1, m, 2), add(1, n, pred)
				want := api.ErrWrites
				if apart(a, b) {
					want = api.OK
				}
				check(t, want, asking(a, b, pred))
				b.D = 2
				check(t, api.OK, asking(a, b, pred))
			}
		}
		check(t, api.ErrWrites, packet(add(1, m, 2), add(1, 0, 0), compare(2)))
	}
}

func TestOneRegisterThreeTimes(t *testing.T) {
	for m := uint8(1); m <= 4; m++ {
		for n := uint8(1); n <= 4; n++ {
			for k := uint8(1); k <= 4; k++ {
				check(t, api.ErrWrites, packet(add(1, m, 0), add(1, n, 0), add(1, k, 0), compare(0)))
			}
		}
	}
	check(t, api.ErrWrites, packet(add(1, 1, 0), add(1, 2, 0), add(1, 1, 0)))
	check(t, api.ErrWrites, packet(add(1, 1, 0), add(1, 2, 0), add(1, 1, 1), add(1, 2, 1)))
}

func TestNewPredicateAndWhatWritesIt(t *testing.T) {
	for _, op := range conds {
		for mode := uint8(0); mode <= 4; mode++ {
			for pred := range uint8(4) {
				in := api.Inst{Op: op, D: 1, Mode: mode, Pred: pred}
				if op == api.Jump || op == api.JumpR {
					in.D = 0
				}
				if mode == 0 {
					in.Pred = 0
				}
				checkNewPredicate(t, in)
			}
		}
	}
}

func checkNewPredicate(t *testing.T, in api.Inst) {
	t.Helper()
	for _, op := range compares {
		for pred := range uint8(4) {
			want := api.OK
			if in.Mode >= 3 && pred != in.Pred {
				want = api.ErrNew
			}
			check(t, want, packet(in, api.Inst{Op: op, D: pred}))
		}
	}
	want := api.OK
	if in.Mode >= 3 {
		want = api.ErrNew
	}
	check(t, want, packet(in))
	check(t, want, packet(in, nop()))
	// These have the predicate's number, but do not write it.
	check(t, want, packet(in, api.Inst{Op: api.Mux, D: 2, Pred: in.Pred}))
	check(t, want, packet(in, load(in.Pred+4), api.Inst{Op: api.Mux, D: in.Pred + 8}))
	if in.D == 1 {
		check(t, want, packet(in, api.Inst{Op: api.Add, D: 2, Mode: in.Mode, Pred: in.Pred}))
	}
}

func TestNewRegisterAndWhatWritesIt(t *testing.T) {
	for _, op := range stores {
		for _, in := range writers() {
			if regOf(in) == none {
				continue
			}
			st := api.Inst{Op: op, S: 6, T: uint8(regOf(in)), New: true}
			want := api.OK
			class := lineOf(in.Op).class
			if in.Mode != 0 || class != "A" && class != "X" {
				want = api.ErrNew
			}
			check(t, want, packet(st, in, compare(in.Pred)))
			st.T ^= 1
			check(t, api.ErrNew, packet(st, in, compare(in.Pred)))
			st.New = false
			check(t, api.OK, packet(st, in, compare(in.Pred)))
		}
	}
}

func TestNewRegisterOfEachNumber(t *testing.T) {
	for reg := range uint8(32) {
		for d := range uint8(32) {
			want := api.ErrNew
			if reg == d {
				want = api.OK
			}
			check(t, want, packet(storeNew(reg), add(d, 0, 0)))
			check(t, api.OK, packet(api.Inst{Op: api.StH, T: reg}, load(d)))
		}
		check(t, api.ErrNew, packet(storeNew(reg)))
		check(t, api.ErrNew, packet(storeNew(reg), nop()))
		check(t, api.ErrNew, packet(storeNew(reg), compare(reg%4)))
		check(t, api.ErrNew, packet(storeNew(reg), storeNew(reg)))
		check(t, api.ErrNew, packet(storeNew(reg), api.Inst{Op: api.StW, T: reg}, jump(0, 0)))
	}
}

func TestNewRegisterThatTwoWrite(t *testing.T) {
	check(t, api.ErrNew, packet(storeNew(1), add(1, 1, 0), add(1, 2, 0)))
	check(t, api.ErrNew, packet(storeNew(1), add(1, 3, 0), add(1, 4, 0), compare(0)))
	check(t, api.ErrWrites, packet(storeNew(1), add(1, 0, 0), add(1, 0, 0)))
	check(t, api.ErrWrites, packet(storeNew(1), add(1, 0, 0), load(1)))
	check(t, api.ErrWrites, packet(storeNew(1), add(1, 0, 0), add(1, 1, 0)))
}

func TestTwoNewRegisters(t *testing.T) {
	check(t, api.OK, packet(storeNew(1), storeNew(1), add(1, 0, 0)))
	check(t, api.OK, packet(storeNew(1), storeNew(2), add(1, 0, 0), add(2, 0, 0)))
	check(t, api.ErrNew, packet(storeNew(1), storeNew(2), add(1, 0, 0)))
	check(t, api.ErrNew, packet(storeNew(1), storeNew(2), add(1, 0, 0), load(2)))
	check(t, api.ErrNew, packet(storeNew(31), api.Inst{Op: api.Call}))
	// What is read beside T need not be written, even if it is the same register.
	check(t, api.OK, packet(api.Inst{Op: api.StB, S: 1, T: 1, New: true}, add(1, 0, 0)))
	check(t, api.ErrNew, packet(api.Inst{Op: api.StB, S: 1, T: 2, New: true}, add(1, 0, 0)))
}

// ended is the packet with the loops' ends by the bits of k.
func ended(p api.Packet, k int) api.Packet {
	p.End0, p.End1 = k%2 == 1, k >= 2
	return p
}

func TestEndsOfLoopsBesideEachOp(t *testing.T) {
	for _, l := range table {
		in := api.Inst{Op: l.op}
		for k := range 4 {
			want := api.OK
			if k > 0 && (l.class == "J" || l.class == "C") {
				want = api.ErrLoop
			}
			check(t, want, ended(packet(in), k))
			check(t, want, ended(packet(in, add(9, 0, 0), load(8), compare(3)), k))
		}
	}
}

func TestEndsOfLoopsBesideJumpsAndLoops(t *testing.T) {
	for k := range 4 {
		want := api.ErrLoop
		if k == 0 {
			want = api.OK
		}
		for _, b := range branches {
			check(t, want, ended(packet(b, nop()), k))
			for _, c := range loops {
				check(t, want, ended(packet(b, c), k))
			}
		}
		check(t, want, ended(packet(loops...), k))
		check(t, want, ended(packet(jump(api.If, 0), nop()), k))
		check(t, api.OK, ended(packet(nop(), nop()), k))
	}
}

func TestTwoBranches(t *testing.T) {
	for _, a := range branches {
		for _, b := range branches {
			check(t, api.ErrBranch, packet(a, b))
			check(t, api.ErrBranch, packet(a, nop(), b, nop()))
			check(t, api.ErrBranch, packet(a, b, a, b))
		}
		check(t, api.OK, packet(a))
		check(t, api.OK, packet(a, loops[0], loops[1]))
	}
	// Two branches of which one at most is executed are two branches all the same.
	check(t, api.ErrBranch, packet(jump(api.If, 0), jump(api.IfNot, 0)))
}

// P10.2: which of the errors is told

// causes are the errors in their order, each with a packet of at most two instructions to which no other one applies.
func causes() []struct {
	err  api.Errno
	here api.Packet
} {
	return []struct {
		err  api.Errno
		here api.Packet
	}{
		{api.ErrForm, api.Packet{Insts: []api.Inst{nop()}, Raw: true, Dup: true}},
		{api.ErrBranch, packet(jump(0, 0), api.Inst{Op: api.Call})},
		{api.ErrWrites, packet(add(31, 0, 0), load(31))},
		{api.ErrNew, packet(storeNew(5))},
		{api.ErrLoop, api.Packet{Insts: []api.Inst{loops[0]}, End0: true, End1: true}},
	}
}

func together(a, b api.Packet) api.Packet {
	return api.Packet{
		Insts: slices.Concat(a.Insts, b.Insts),
		End0:  a.End0 || b.End0, End1: a.End1 || b.End1,
		Raw: a.Raw || b.Raw, Dup: a.Dup || b.Dup,
	}
}

func TestEachErrorWithEachLaterOne(t *testing.T) {
	all := causes()
	for i, first := range all {
		check(t, first.err, first.here)
		for _, later := range all[i:] {
			check(t, first.err, together(first.here, later.here))
			check(t, first.err, together(later.here, first.here))
		}
	}
}

func TestErrorsThatOneInstructionHas(t *testing.T) {
	call := api.Inst{Op: api.Call}
	check(t, api.ErrBranch, ended(packet(jump(api.IfNew, 0), call, load(31)), 1))
	check(t, api.ErrWrites, ended(packet(call, load(31), storeNew(31)), 2))
	check(t, api.ErrWrites, packet(add(1, 3, 0), add(1, 1, 0), storeNew(1)))
	check(t, api.ErrNew, ended(packet(jump(api.NotNew, 0), compare(1)), 1))
	check(t, api.ErrNew, ended(packet(storeNew(31), call), 3))
	check(t, api.ErrLoop, ended(packet(jump(api.NotNew, 0), compare(0)), 1))
}

func TestFormWithEachLaterError(t *testing.T) {
	for _, later := range causes() {
		for _, wrong := range wrongs {
			check(t, api.ErrForm, together(packet(wrong), later.here))
		}
		five := later.here
		five.Insts = slices.Concat(five.Insts, slices.Repeat([]api.Inst{nop()}, 5-len(five.Insts)))
		check(t, api.ErrForm, five)
	}
}

// P10.2: wrong inputs

func TestNoInstruction(t *testing.T) {
	for k := range 4 {
		check(t, api.ErrForm, ended(packet(), k))
		check(t, api.ErrForm, ended(api.Packet{Insts: []api.Inst{}}, k))
		check(t, api.ErrForm, ended(api.Packet{Raw: true}, k))
		check(t, api.ErrForm, ended(api.Packet{Dup: true}, k))
	}
}

func TestMoreInstructionsThanFour(t *testing.T) {
	for n := range 40 {
		want := api.OK
		if n == 0 || n > 4 {
			want = api.ErrForm
		}
		if got := rules.Check(packet(slices.Repeat([]api.Inst{nop()}, n)...)); got != want {
			t.Errorf("%d nops: %d", n, got)
		}
	}
	check(t, api.ErrForm, packet(add(1, 0, 0), add(2, 0, 0), load(3), compare(0), nop()))
	check(t, api.ErrForm, packet(nop(), nop(), nop(), nop(), api.Inst{}))
}

func TestRawAndDup(t *testing.T) {
	for _, l := range table {
		for k := range 4 {
			p := ended(packet(api.Inst{Op: l.op}, nop()), k)
			p.Raw, p.Dup = true, true
			check(t, api.ErrForm, p)
		}
	}
}

func TestInstructionsThatAreNotValid(t *testing.T) {
	for _, wrong := range wrongs {
		check(t, api.ErrForm, packet(wrong))
		check(t, api.ErrForm, packet(wrong, wrong))
		check(t, api.ErrForm, packet(wrong, nop()))
		check(t, api.ErrForm, packet(wrong, add(1, 0, 0), load(2), compare(0)))
		check(t, api.ErrForm, packet(wrong, wrong, wrong, wrong, wrong))
		for _, other := range writers() {
			check(t, api.ErrForm, packet(wrong, other))
		}
	}
}

// P10.2 and P10.3: packets of many kinds against the chapter's words, in every order

// pool has of each thing that the rules speak of a few instructions.
func pool() []api.Inst {
	return []api.Inst{
		nop(), add(1, 0, 0), add(1, 1, 0), add(1, 2, 0), add(1, 3, 0), add(1, 4, 0),
		{Op: api.MovI, D: 1, Mode: 1, Pred: 1, Imm: 1 << 30, Ext: true}, {Op: api.Mov, D: 1, S: 1, Mode: 4, Pred: 1},
		{Op: api.Mpy, D: 1}, {Op: api.Mux, D: 31, Pred: 1}, {Op: api.LdH, D: 1}, add(31, 2, 1),
		compare(0), {Op: api.CmpEqI, D: 1},
		storeNew(1), {Op: api.StB, T: 31, New: true}, {Op: api.StH, T: 1},
		jump(0, 0), {Op: api.JumpR, Mode: 3, Pred: 1}, {Op: api.Call, Imm: 1<<32 - 4},
		{Op: api.LoopI, Count: 2047}, {Op: api.Add, D: 1, Mode: 5},
	}
}

// eachPacket calls do with each packet of up to four instructions of the pool, in one order.
func eachPacket(do func(p api.Packet)) {
	for n := range 5 {
		for insts := range arrange.Multisets(pool(), n) {
			do(packet(insts...))
		}
	}
}

func TestPacketsAgainstTheWords(t *testing.T) {
	count := map[api.Errno]int{}
	eachPacket(func(p api.Packet) {
		for flags := range 16 {
			p := ended(p, flags%4)
			p.Raw, p.Dup = flags/4%2 == 1, flags/8 == 1
			want := wanted(p)
			count[want]++
			if got := rules.Check(p); got != want {
				t.Errorf("Check(%+v): %d, not %d", p, got, want)
			}
		}
	})
	for _, e := range []api.Errno{api.OK, api.ErrForm, api.ErrBranch, api.ErrWrites, api.ErrNew, api.ErrLoop} {
		if count[e] < 100 {
			t.Errorf("the error %d is told but %d times", e, count[e])
		}
	}
}

func TestPacketsInEveryOrder(t *testing.T) {
	k := 0
	eachPacket(func(p api.Packet) {
		k++
		check(t, wanted(ended(p, k%4)), ended(p, k%4))
	})
}

// executed goes by the modes: the predicates' old values are the lower four bits, their new ones the upper four.
func executed(in api.Inst, values int) bool {
	old := values>>in.Pred&1 == 1
	fresh := values>>(4+in.Pred)&1 == 1
	return [5]bool{true, old, !old, fresh, !fresh}[in.Mode]
}

// writesTwice reports whether two of the instructions that are executed write one register.
func writesTwice(l []api.Inst, values int) bool {
	var had [32]bool
	for _, in := range l {
		reg := regOf(in)
		if reg == none || !executed(in, values) {
			continue
		}
		if had[reg] {
			return true
		}
		had[reg] = true
	}
	return false
}

func TestNoTwoExecutedWriteOneRegister(t *testing.T) {
	okay, shared := 0, 0
	eachPacket(func(p api.Packet) {
		if rules.Check(p) != api.OK {
			return
		}
		okay++
		for values := range 256 {
			if writesTwice(p.Insts, values) {
				t.Fatalf("%+v is OK, but with the predicates %08b a register is written twice", p, values)
			}
		}
		for i, a := range p.Insts {
			if slices.ContainsFunc(p.Insts[:i], func(b api.Inst) bool { return regOf(a) != none && regOf(a) == regOf(b) }) {
				shared++
			}
		}
	})
	if okay < 100 || shared < 20 {
		t.Errorf("%d packets are OK, and %d times two write one register", okay, shared)
	}
}

// R1, R3, R4

func TestVeryManyInstructions(t *testing.T) {
	for _, in := range []api.Inst{nop(), jump(0, 0), storeNew(1), {}} {
		p := packet(slices.Repeat([]api.Inst{in}, 1<<20)...)
		if got := rules.Check(p); got != api.ErrForm {
			t.Errorf("2^20 of %+v: %d", in, got)
		}
	}
}

func TestInstructionsStayAsTheyAre(t *testing.T) {
	for _, c := range causes() {
		room := append(slices.Clone(c.here.Insts), load(9), api.Inst{Op: 77}, load(10), nop(), compare(1))
		kept := slices.Clone(room)
		p := c.here
		p.Insts = room[:len(c.here.Insts)]
		if got := rules.Check(p); got != c.err || !slices.Equal(room, kept) {
			t.Errorf("%d; %+v became %+v", got, kept, room)
		}
	}
	eachPacket(func(p api.Packet) {
		kept := slices.Clone(p.Insts)
		rules.Check(p)
		if !slices.Equal(p.Insts, kept) {
			t.Errorf("%+v became %+v", kept, p.Insts)
		}
	})
}

func TestResultsAreTheSameEachTime(t *testing.T) {
	for range 3 {
		TestExamples(t)
		TestClashByHand(t)
		for _, c := range causes() {
			check(t, c.err, c.here)
		}
	}
}
