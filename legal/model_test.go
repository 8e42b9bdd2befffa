package legal_test

import (
	"slices"
	"strings"

	"coxless/api"
	"coxless/arrange"
	"coxless/rules"
)

// A known is an instruction with what the document says of it: the digits of its slots (none if it is not valid), and whether it has a small instruction.
type known struct {
	in    api.Inst
	slots string
	small string
}

const (
	store = "store"
	other = "other"
)

// pool has of each class, and of each small instruction, a few instructions that may be written beside each other, and ones that are not valid.
func pool() []known {
	return []known{
		{nop(), "0123", ""},
		{movi(1), "0123", other},
		{far(2), "0123", ""},
		{api.Inst{Op: api.MovI, D: 3, Imm: 128}, "0123", ""},
		{api.Inst{Op: api.AddI, D: 4, S: 4, Imm: -64}, "0123", other},
		{api.Inst{Op: api.Add, D: 5, S: 5, T: 6}, "0123", other},
		{api.Inst{Op: api.CmpEqI, S: 23, Imm: 127}, "0123", other},
		{api.Inst{Op: api.CmpEqI, D: 1}, "0123", ""},
		{load(6), "01", other},
		{load(9), "01", ""},
		{api.Inst{Op: api.LdH, D: 7}, "01", ""},
		{storeW(0), "0", store},
		{api.Inst{Op: api.StB, S: 16, T: 1, Imm: 7}, "0", store},
		{api.Inst{Op: api.StW, T: 1, New: true}, "0", ""},
		{shift(16), "23", ""},
		{api.Inst{Op: api.Jump, Imm: 8}, "23", ""},
		{api.Inst{Op: api.Call, Ext: true}, "23", ""},
		{api.Inst{Op: api.JumpR, Mode: api.IfNew}, "23", ""},
		{loop(), "3", ""},
		{api.Inst{}, "", ""},
		{api.Inst{Op: api.MovI, D: 1, Pred: 1}, "", ""},
	}
}

func instsOf(l []known) []api.Inst {
	insts := make([]api.Inst, len(l))
	for i, k := range l {
		insts[i] = k.in
	}
	return insts
}

// assigns tries all assignments.
func assigns(l []known, out string) bool {
	if len(l) == 0 {
		return true
	}
	for _, s := range l[0].slots {
		if strings.ContainsRune(out, s) && assigns(l[1:], strings.ReplaceAll(out, string(s), "")) {
			return true
		}
	}
	return false
}

// mayBePaired goes by the chapters' words: two small instructions, not both stores, with the others in the slots 2 and 3.
func mayBePaired(l []known, i, j int) bool {
	a, b := l[i].small, l[j].small
	others := slices.Concat(l[:i], l[i+1:j], l[j+1:])
	return a != "" && b != "" && (a != store || b != store) && assigns(others, "23")
}

// pairs are all that may be paired, the first one first.
func pairs(l []known) [][2]int {
	var all [][2]int
	for i := range l {
		for j := i + 1; j < len(l); j++ {
			if mayBePaired(l, i, j) {
				all = append(all, [2]int{i, j})
			}
		}
	}
	return all
}

func wantedWords(p api.Packet) int {
	extended := slices.DeleteFunc(slices.Clone(p.Insts), func(in api.Inst) bool { return !in.Ext })
	words := len(p.Insts) + len(extended)
	if p.Dup {
		return words - 1
	}
	return words
}

func lacksWords(p api.Packet) bool {
	words := wantedWords(p)
	return p.End0 && words < 2 || p.End1 && words < 3
}

func wantedTakes(l []known, p api.Packet) bool {
	p.Dup = true
	return !p.Raw && len(pairs(l)) > 0 && !lacksWords(p)
}

// wanted takes from layer 10 which of its errors applies; p has the instructions of l.
func wanted(l []known, p api.Packet) api.Errno {
	applies := map[api.Errno]bool{rules.Check(p): true}
	if p.Dup && len(pairs(l)) == 0 || !p.Dup && !assigns(l, "0123") {
		applies[api.ErrSlots] = true
	}
	if wantedWords(p) > 4 {
		applies[api.ErrWords] = true
	}
	if lacksWords(p) {
		applies[api.ErrLoop] = true
	}
	order := []api.Errno{api.ErrForm, api.ErrSlots, api.ErrWords, api.ErrBranch, api.ErrWrites, api.ErrNew, api.ErrLoop}
	for _, e := range order {
		if applies[e] {
			return e
		}
	}
	return api.OK
}

// eachPacket calls do with each multiset of up to four of the pool, and each setting of the flags.
func eachPacket(do func(l []known, p api.Packet)) {
	for n := range 5 {
		for l := range arrange.Multisets(pool(), n) {
			for flags := range 16 {
				do(l, flagged(flags, instsOf(l)...))
			}
		}
	}
}
