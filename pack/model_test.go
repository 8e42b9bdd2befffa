package pack_test

import (
	"slices"
	"strings"

	"coxless/api"
	"coxless/legal"
)

// home is the address at which the pool's words hold.
const home = 0x1000

// A known is an instruction with what the document says of it, worked out by hand: its class, its word at home with the upper part (0 if it has none), and its small number (0 if it has none).
type known struct {
	in       api.Inst
	class    string
	w, upper uint32
	small    uint32
}

// pool has of each class, and of each small instruction that a duplex may have, a few instructions that may be written beside each other; one whose target has no word at home; and one that is not valid.
func pool() []known {
	return []known{
		{api.Inst{Op: api.Nop}, "A", 0x04000000, 0, 0},
		{api.Inst{Op: api.Sub, D: 8, S: 2, T: 3}, "A", 0x0c080430, 0, 0},
		{api.Inst{Op: api.Sub, D: 9, S: 2, T: 3}, "A", 0x0c090430, 0, 0},
		{api.Inst{Op: api.Add, D: 5, S: 5, T: 6}, "A", 0x08050a60, 0, 0x22b0},
		{api.Inst{Op: api.AddI, D: 4, S: 4, Imm: -64}, "A", 0x1c843fc0, 0, 0x1240},
		{api.Inst{Op: api.MovI, Imm: 1}, "A", 0x20000001, 0, 0x0801},
		{api.Inst{Op: api.MovI, D: 1}, "A", 0x20010000, 0, 0x0880},
		{api.Inst{Op: api.MovI, D: 2, Imm: 0x12345678, Ext: true}, "A", 0x20020078, 0x123456, 0},
		{api.Inst{Op: api.MovI, D: 3, Imm: -1}, "A", 0x20033fff, 0, 0},
		{api.Inst{Op: api.CmpEqI, S: 23, Imm: 127}, "A", 0x34b803f8, 0, 0x4fff},
		{api.Inst{Op: api.Asl, D: 16, S: 2, Imm: 3}, "X", 0x3e020600, 0, 0},
		{api.Inst{Op: api.Mpy, D: 17, S: 2, T: 3}, "X", 0x4a220600, 0, 0},
		{api.Inst{Op: api.LdW, D: 6, S: 7}, "L", 0x54c70000, 0, 0x2b38},
		{api.Inst{Op: api.LdB, D: 7, S: 6, Imm: 7}, "L", 0x5ce6001c, 0, 0x3bb7},
		{api.Inst{Op: api.LdH, D: 10, S: 1, Imm: -2}, "L", 0x59413ffc, 0, 0},
		{api.Inst{Op: api.StW, S: 6, Imm: 28}, "S", 0x60c0000e, 0, 0x3307},
		{api.Inst{Op: api.StB, S: 16, T: 1, Imm: 7}, "S", 0x6a00200e, 0, 0x440f},
		{api.Inst{Op: api.StH, S: 6, New: true, T: 8, Imm: 300001, Ext: true}, "S", 0x64d401c2, 0x493, 0},
		{api.Inst{Op: api.Jump, Imm: home - 8}, "J", 0x6c1f3ffe, 0, 0},
		{api.Inst{Op: api.Call, Ext: true}, "J", 0x74000000, 0xfffff0, 0},
		{api.Inst{Op: api.JumpR, Mode: api.IfNew, S: 31}, "J", 0x719f0000, 0, 0},
		{api.Inst{Op: api.LoopI, N: 1, Count: 9}, "C", 0x7b800009, 0, 0},
		{api.Inst{Op: api.LoopR, Imm: home + 8188, S: 2}, "C", 0x7cff3880, 0, 0},
		{api.Inst{Op: api.Jump, Imm: 1 << 30}, "J", 0, 0, 0},
		{api.Inst{Op: api.MovI, D: 1, Pred: 1}, "", 0, 0, 0},
	}
}

func instsOf(l []known) []api.Inst {
	insts := make([]api.Inst, len(l))
	for i, k := range l {
		insts[i] = k.in
	}
	return insts
}

func lacksWord(k known) bool { return k.w == 0 }

// spell lists what decides over the row, the first that differs alone.
func spell(k known) []int64 {
	extended := int64(0)
	if k.in.Ext {
		extended = 1
	}
	return []int64{int64(strings.Index("CJXALS", k.class)), int64(k.w), int64(k.upper), extended}
}

func rowOf(l []known) []known {
	row := slices.Clone(l)
	slices.SortFunc(row, func(a, b known) int { return slices.Compare(spell(a), spell(b)) })
	return row
}

// isStore goes by the codes 6 and 8 of small numbers.
func isStore(small uint32) bool {
	return small/2048 == 6 || small/2048 == 8
}

// haveTheirSlots goes by the classes that have the slots 2 and 3, and C has 3 alone.
func haveTheirSlots(others []known) bool {
	classes := ""
	for _, k := range others {
		classes += k.class
	}
	return len(others) <= 2 && !strings.ContainsAny(classes, "LS") && strings.Count(classes, "C") < 2
}

func mayBePaired(row []known, i, j int) bool {
	a, b := row[i].small, row[j].small
	others := slices.Concat(row[:i], row[i+1:j], row[j+1:])
	return a != 0 && b != 0 && !(isStore(a) && isStore(b)) && haveTheirSlots(others)
}

// place makes a word without parse bits of a number of 30 bits or fewer.
func place(v uint32) uint32 {
	return v/16384*65536 + v%16384
}

func duplexOf(a, b uint32) uint32 {
	if isStore(a) || !isStore(b) && a < b {
		a, b = b, a
	}
	return place(a*32768 + b)
}

// apart takes the two of the first pair out of the row.
func apart(row []known) (others []known, pair uint32) {
	for i := range row {
		for j := i + 1; j < len(row); j++ {
			if mayBePaired(row, i, j) {
				return slices.Concat(row[:i], row[i+1:j], row[j+1:]), duplexOf(row[i].small, row[j].small)
			}
		}
	}
	return row, 0
}

func parseBits(p api.Packet, n int) []uint32 {
	all := slices.Repeat([]uint32{1}, n)
	if p.End0 {
		all[0] = 2
	}
	if p.End1 {
		all[1] = 2
	}
	all[n-1] = 3
	if p.Dup {
		all[n-1] = 0
	}
	return all
}

// wanted takes from layer 11 which of its errors applies; p has the instructions of l.
func wanted(l []known, p api.Packet) ([]uint32, api.Errno) {
	if e := legal.Check(p); e != api.OK {
		return nil, e
	}
	if slices.ContainsFunc(l, lacksWord) {
		return nil, api.ErrRange
	}
	others, pair := rowOf(l), uint32(0)
	if p.Dup {
		others, pair = apart(others)
	}
	var words []uint32
	for _, k := range others {
		if k.in.Ext {
			words = append(words, place(k.upper))
		}
		words = append(words, k.w)
	}
	if p.Dup {
		words = append(words, pair)
	}
	for i, parse := range parseBits(p, len(words)) {
		words[i] += parse * 16384
	}
	return words, api.OK
}
