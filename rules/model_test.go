package rules_test

import (
	"slices"
	"strings"

	"coxless/api"
)

const none = -1

// An opLine is what layer 10 asks of a line of the table of layer 3.
type opLine struct {
	op    uint8
	class string
	dest  string
	cond  bool
}

var table = []opLine{
	{api.Nop, "A", "", false},
	{api.Add, "A", "D", true}, {api.Sub, "A", "D", true}, {api.And, "A", "D", true}, {api.Or, "A", "D", true}, {api.Xor, "A", "D", true},
	{api.AddI, "A", "D", false}, {api.MovI, "A", "D", true}, {api.Mov, "A", "D", true},
	{api.CmpEq, "A", "DP", false}, {api.CmpGt, "A", "DP", false}, {api.CmpGtu, "A", "DP", false}, {api.CmpEqI, "A", "DP", false},
	{api.Mux, "A", "D", false},
	{api.Asl, "X", "D", false}, {api.Lsr, "X", "D", false}, {api.Asr, "X", "D", false},
	{api.Mpy, "X", "D", false}, {api.Cmpy, "X", "D", false}, {api.CmpyC, "X", "D", false},
	{api.LdW, "L", "D", false}, {api.LdH, "L", "D", false}, {api.LdB, "L", "D", false},
	{api.StW, "S", "", false}, {api.StH, "S", "", false}, {api.StB, "S", "", false},
	{api.Jump, "J", "", true}, {api.JumpR, "J", "", true}, {api.Call, "J", "31", false},
	{api.LoopI, "C", "", false}, {api.LoopR, "C", "", false},
}

var (
	branches = []api.Inst{{Op: api.Jump}, {Op: api.JumpR, S: 31}, {Op: api.Call, Imm: 64}}
	loops    = []api.Inst{{Op: api.LoopI, Count: 9}, {Op: api.LoopR, N: 1, S: 4}}
	compares = []uint8{api.CmpEq, api.CmpGt, api.CmpGtu, api.CmpEqI}
	stores   = []uint8{api.StW, api.StH, api.StB}
	conds    = []uint8{api.Add, api.Sub, api.And, api.Or, api.Xor, api.MovI, api.Mov, api.Jump, api.JumpR}
)

// wrongs are instructions that are not valid, most of them in one thing alone: were it passed over, many would clash, branch or ask for something new.
var wrongs = []api.Inst{
	{}, {Op: 32}, {Op: 255}, {D: 1},
	{Op: api.Nop, D: 1}, {Op: api.Nop, Ext: true},
	{Op: api.Add, D: 32}, {Op: api.Add, D: 255}, {Op: api.Add, D: 1, S: 32}, {Op: api.Add, D: 1, T: 32},
	{Op: api.Add, D: 1, Mode: 5}, {Op: api.Add, D: 1, Mode: 255}, {Op: api.Add, D: 1, Pred: 1}, {Op: api.Add, D: 1, Mode: 1, Pred: 4},
	{Op: api.Add, D: 1, N: 1}, {Op: api.Add, D: 1, New: true}, {Op: api.Add, D: 1, Ext: true}, {Op: api.Add, D: 1, Count: 1}, {Op: api.Add, D: 1, Imm: 1},
	{Op: api.AddI, D: 1, Mode: 1}, {Op: api.MovI, D: 1, Imm: 8192}, {Op: api.MovI, D: 1, Imm: -8193}, {Op: api.MovI, D: 1, Imm: 1 << 31, Ext: true},
	{Op: api.CmpEq, D: 4}, {Op: api.CmpEq, Mode: 3}, {Op: api.CmpEqI, T: 1}, {Op: api.Mux, D: 1, Pred: 4}, {Op: api.Asl, D: 1, Imm: 32},
	{Op: api.LdW, D: 1, Imm: 2}, {Op: api.LdB, D: 1, New: true}, {Op: api.StW, D: 1}, {Op: api.StW, T: 1, Imm: 6, New: true}, {Op: api.StB, T: 32, New: true},
	{Op: api.Jump, Imm: 2}, {Op: api.Jump, Pred: 1}, {Op: api.Jump, Mode: 5}, {Op: api.JumpR, S: 32},
	{Op: api.Call, D: 31}, {Op: api.Call, Imm: -4}, {Op: api.Call, Imm: 1 << 32},
	{Op: api.LoopI, N: 2}, {Op: api.LoopI, Count: 2048}, {Op: api.LoopR, Ext: true, Imm: 1},
}

func add(d, mode, pred uint8) api.Inst {
	return api.Inst{Op: api.Add, D: d, S: 2, T: 3, Mode: mode, Pred: pred}
}

func jump(mode, pred uint8) api.Inst {
	return api.Inst{Op: api.Jump, Mode: mode, Pred: pred, Imm: 32}
}

func compare(pred uint8) api.Inst         { return api.Inst{Op: api.CmpEq, D: pred, S: 4, T: 5} }
func storeNew(reg uint8) api.Inst         { return api.Inst{Op: api.StW, S: 6, T: reg, New: true} }
func load(reg uint8) api.Inst             { return api.Inst{Op: api.LdW, D: reg, S: 7} }
func nop() api.Inst                       { return api.Inst{Op: api.Nop} }
func packet(insts ...api.Inst) api.Packet { return api.Packet{Insts: insts} }
func isWrong(in api.Inst) bool            { return slices.Contains(wrongs, in) }
func lineOf(op uint8) opLine              { return table[op-1] }

// regOf and predOf are what a valid instruction writes, or none.
func regOf(in api.Inst) int {
	switch lineOf(in.Op).dest {
	case "D":
		return int(in.D)
	case "31":
		return 31
	}
	return none
}

func predOf(in api.Inst) int {
	if lineOf(in.Op).dest == "DP" {
		return int(in.D)
	}
	return none
}

// apart goes by the chapter's words: Modes 1 and 2, or 3 and 4, of one Pred.
func apart(a, b api.Inst) bool {
	pairs := [][2]uint8{{1, 2}, {2, 1}, {3, 4}, {4, 3}}
	return a.Pred == b.Pred && slices.Contains(pairs, [2]uint8{a.Mode, b.Mode})
}

func wantsClash(a, b api.Inst) bool {
	if isWrong(a) || isWrong(b) {
		return false
	}
	sameReg := regOf(a) != none && regOf(a) == regOf(b)
	samePred := predOf(a) != none && predOf(a) == predOf(b)
	return sameReg && !apart(a, b) || samePred
}

// applies tells which of the errors after ErrForm apply to a packet of valid instructions.
func applies(p api.Packet) map[api.Errno]bool {
	e := map[api.Errno]bool{}
	jumps, preds, writers := 0, map[int]bool{}, map[int][]api.Inst{}
	for i, in := range p.Insts {
		class := lineOf(in.Op).class
		if class == "J" {
			jumps++
		}
		preds[predOf(in)] = true
		writers[regOf(in)] = append(writers[regOf(in)], in)
		if (class == "J" || class == "C") && (p.End0 || p.End1) {
			e[api.ErrLoop] = true
		}
		for k, other := range p.Insts {
			if k != i && wantsClash(in, other) {
				e[api.ErrWrites] = true
			}
		}
	}
	e[api.ErrBranch] = jumps >= 2
	for _, in := range p.Insts {
		if in.Mode >= 3 && !preds[int(in.Pred)] {
			e[api.ErrNew] = true
		}
		w := writers[int(in.T)]
		if in.New && (len(w) != 1 || w[0].Mode != 0 || !strings.Contains("AX", lineOf(w[0].Op).class)) {
			e[api.ErrNew] = true
		}
	}
	return e
}

func wanted(p api.Packet) api.Errno {
	if len(p.Insts) < 1 || len(p.Insts) > 4 || p.Raw && p.Dup || slices.ContainsFunc(p.Insts, isWrong) {
		return api.ErrForm
	}
	e := applies(p)
	for _, first := range []api.Errno{api.ErrBranch, api.ErrWrites, api.ErrNew, api.ErrLoop} {
		if e[first] {
			return first
		}
	}
	return api.OK
}
