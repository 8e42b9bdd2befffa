package match_test

import (
	"math"
	"slices"
	"testing"

	"coxless/arrange"
	"coxless/match"
)

// powers are 2^s for each slot s, so that the tests share no shift with the program.
var powers = [4]int{1, 2, 4, 8}

func takes(mask uint8, slot int) bool {
	return int(mask)/powers[slot]%2 == 1
}

// isAssignment goes by the chapter's words.
func isAssignment(masks []uint8, slots []int) bool {
	if len(slots) != len(masks) {
		return false
	}
	var had [4]bool
	for i, s := range slots {
		if s < 0 || s > 3 || had[s] || !takes(masks[i], s) {
			return false
		}
		had[s] = true
	}
	return true
}

// sequences returns all sequences of n numbers below base, the least one first.
func sequences(n, base int) [][]int {
	all := [][]int{{}}
	for range n {
		var longer [][]int
		for _, x := range all {
			for v := range base {
				longer = append(longer, append(slices.Clone(x), v))
			}
		}
		all = longer
	}
	return all
}

// candidates are all sequences of up to four distinct slots in their order: no other one can be an assignment.
var candidates = makeCandidates()

func makeCandidates() (of [5][][]int) {
	anySlot := []uint8{15, 15, 15, 15}
	for n := range of {
		for _, slots := range sequences(n, 4) {
			if isAssignment(anySlot[:n], slots) {
				of[n] = append(of[n], slots)
			}
		}
	}
	return of
}

// least tries all assignments in their order.
func least(masks []uint8) ([]int, bool) {
	if len(masks) > 4 {
		return nil, false
	}
	for _, slots := range candidates[len(masks)] {
		if isAssignment(masks, slots) {
			return slots, true
		}
	}
	return nil, false
}

// enough is the condition of P9.2: no subset of the masks has fewer slots than masks.
func enough(masks []uint8) bool {
	for subset := range 1 << len(masks) {
		members := 0
		var allowed [4]bool
		for i, mask := range masks {
			if subset/(1<<i)%2 == 0 {
				continue
			}
			members++
			for s := range 4 {
				allowed[s] = allowed[s] || takes(mask, s)
			}
		}
		slots := 0
		for _, a := range allowed {
			if a {
				slots++
			}
		}
		if slots < members {
			return false
		}
	}
	return true
}

// eachLow calls do with all sequences of n masks without higher bits.
func eachLow(n int, do func(masks []uint8)) {
	masks := make([]uint8, n)
	for _, x := range sequences(n, 16) {
		for i, v := range x {
			masks[i] = uint8(v)
		}
		do(masks)
	}
}

func wantSlots(t *testing.T, masks []uint8, want ...int) {
	t.Helper()
	if got, ok := match.Slots(masks...); !ok || !slices.Equal(got, want) {
		t.Errorf("Slots(%d): %d, %t, not %d", masks, got, ok, want)
	}
	if !match.Fits(masks...) {
		t.Errorf("Fits(%d) is false", masks)
	}
}

func wantNone(t *testing.T, masks ...uint8) {
	t.Helper()
	if got, ok := match.Slots(masks...); ok || len(got) != 0 {
		t.Errorf("Slots(%d): %d, %t, not none", masks, got, ok)
	}
	if match.Fits(masks...) {
		t.Errorf("Fits(%d) is true", masks)
	}
}

// wantLeast holds the masks against all assignments.
func wantLeast(t *testing.T, masks []uint8) {
	t.Helper()
	if want, ok := least(masks); ok {
		wantSlots(t, masks, want...)
	} else {
		wantNone(t, masks...)
	}
}

func wantNoneInAnyOrder(t *testing.T, masks ...uint8) {
	t.Helper()
	for order := range arrange.Orders(masks) {
		wantNone(t, order...)
	}
}

// The examples of the chapter

func TestExamples(t *testing.T) {
	wantSlots(t, []uint8{15, 15, 1}, 1, 2, 0)
	wantNone(t, 1, 1)
	wantSlots(t, []uint8{12, 8, 3}, 2, 3, 0)
	wantSlots(t, nil)
	wantNone(t, 0)
	wantNone(t, 15, 15, 15, 15, 15)
}

// P9.1 on ordinary inputs

func TestOneMask(t *testing.T) {
	for mask, slot := range []int{1: 0, 2: 1, 3: 0, 4: 2, 5: 0, 6: 1, 7: 0, 8: 3, 9: 0, 10: 1, 11: 0, 12: 2, 13: 0, 14: 1, 15: 0} {
		if mask > 0 {
			wantSlots(t, []uint8{uint8(mask)}, slot)
		}
	}
}

// The masks are those of the six classes: A 15, X and J 12, L 3, S 1, C 8.
func TestSlotsByHand(t *testing.T) {
	wantSlots(t, []uint8{15, 15}, 0, 1)
	wantSlots(t, []uint8{12, 12}, 2, 3)
	wantSlots(t, []uint8{3, 3}, 0, 1)
	wantSlots(t, []uint8{3, 1}, 1, 0)
	wantSlots(t, []uint8{12, 8}, 2, 3)
	wantSlots(t, []uint8{8, 12}, 3, 2)
	wantSlots(t, []uint8{15, 12, 3}, 0, 2, 1)
	wantSlots(t, []uint8{15, 3, 3}, 2, 0, 1)
	wantSlots(t, []uint8{15, 15, 15, 15}, 0, 1, 2, 3)
	wantSlots(t, []uint8{15, 15, 15, 1}, 1, 2, 3, 0)
	wantSlots(t, []uint8{15, 15, 15, 8}, 0, 1, 2, 3)
	wantSlots(t, []uint8{15, 15, 8, 1}, 1, 2, 3, 0)
	wantSlots(t, []uint8{8, 12, 3, 1}, 3, 2, 1, 0)
	wantSlots(t, []uint8{12, 15, 3, 12}, 2, 0, 1, 3)
	wantSlots(t, []uint8{6, 6, 15, 9}, 1, 2, 0, 3)
}

func TestUpToFourMasksAgainstAllAssignments(t *testing.T) {
	fit := [5]int{}
	for n := range fit {
		eachLow(n, func(masks []uint8) {
			wantLeast(t, masks)
			if _, ok := least(masks); ok {
				fit[n]++
			}
		})
	}
	// With fewer than two masks it can be counted by hand; the rest shows that neither answer is rare.
	if fit[0] != 1 || fit[1] != 15 || fit[2] != 15*15-4 {
		t.Errorf("%d sequences of masks fit", fit)
	}
}

// P9.1 on the edges

func TestNoMasks(t *testing.T) {
	wantSlots(t, nil)
	wantSlots(t, []uint8{})
	if got, ok := match.Slots(); len(got) != 0 || !ok || !match.Fits() {
		t.Errorf("Slots(): %d, %t; Fits(): %t", got, ok, match.Fits())
	}
}

func TestHigherBitsOfOneAndTwoMasks(t *testing.T) {
	for a := range 256 {
		wantLeast(t, []uint8{uint8(a)})
		for b := range 256 {
			wantLeast(t, []uint8{uint8(a), uint8(b)})
		}
	}
}

func TestHigherBitsOfFourMasks(t *testing.T) {
	wantSlots(t, []uint8{0xff, 0xff, 0xff, 0xff}, 0, 1, 2, 3)
	wantSlots(t, []uint8{0xff, 0xff, 0xf1}, 1, 2, 0)
	wantSlots(t, []uint8{0x1c, 0x28, 0x83}, 2, 3, 0)
	wantSlots(t, []uint8{0x81, 0x42, 0x24, 0x18}, 0, 1, 2, 3)
	eachLow(4, func(masks []uint8) {
		want, ok := least(masks)
		for _, high := range [][4]uint8{{240, 240, 240, 240}, {16, 32, 64, 128}, {0, 160, 80, 16}} {
			raised := slices.Clone(masks)
			for i := range raised {
				raised[i] += high[i]
			}
			if got, fits := match.Slots(raised...); fits != ok || !slices.Equal(got, want) || match.Fits(raised...) != ok {
				t.Errorf("Slots(%d): %d, %t, not %d, %t", raised, got, fits, want, ok)
			}
		}
	})
}

// The first mask, or one after it, would leave another one without a slot if it took its own least one.
func TestLeastSlotThatMustNotBeTaken(t *testing.T) {
	wantSlots(t, []uint8{3, 1}, 1, 0)
	wantSlots(t, []uint8{15, 1}, 1, 0)
	wantSlots(t, []uint8{15, 3, 1}, 2, 1, 0)
	wantSlots(t, []uint8{15, 3, 3}, 2, 0, 1)
	wantSlots(t, []uint8{15, 7, 3, 1}, 3, 2, 1, 0)
	wantSlots(t, []uint8{15, 7, 7, 7}, 3, 0, 1, 2)
	wantSlots(t, []uint8{9, 5, 6, 2}, 3, 0, 2, 1)
	wantSlots(t, []uint8{15, 12, 12, 3}, 0, 2, 3, 1)
	wantSlots(t, []uint8{15, 6, 2}, 0, 2, 1)
	wantSlots(t, []uint8{1, 14, 2}, 0, 2, 1)
	wantSlots(t, []uint8{1, 14, 6, 2}, 0, 3, 2, 1)
	wantSlots(t, []uint8{2, 13, 5, 1}, 1, 3, 2, 0)
	wantSlots(t, []uint8{1, 2, 12, 4}, 0, 1, 3, 2)
}

func TestFourMasksOfOneSlotEach(t *testing.T) {
	for order := range arrange.Orders([]uint8{1, 2, 4, 8}) {
		want := make([]int, 4)
		for i, mask := range order {
			want[i] = slices.Index(powers[:], int(mask))
		}
		wantSlots(t, order, want...)
	}
}

func TestEachOrderHasItsOwnLeastAssignment(t *testing.T) {
	wantSlots(t, []uint8{15, 15, 1}, 1, 2, 0)
	wantSlots(t, []uint8{15, 1, 15}, 1, 0, 2)
	wantSlots(t, []uint8{1, 15, 15}, 0, 1, 2)
	wantSlots(t, []uint8{12, 8, 3}, 2, 3, 0)
	wantSlots(t, []uint8{12, 3, 8}, 2, 0, 3)
	wantSlots(t, []uint8{8, 12, 3}, 3, 2, 0)
	wantSlots(t, []uint8{8, 3, 12}, 3, 0, 2)
	wantSlots(t, []uint8{3, 12, 8}, 0, 2, 3)
	wantSlots(t, []uint8{3, 8, 12}, 0, 3, 2)
}

// P9.1 on wrong inputs

func TestMaskThatAllowsNoSlot(t *testing.T) {
	wantNone(t, 0)
	wantNoneInAnyOrder(t, 0, 15)
	wantNoneInAnyOrder(t, 0, 0)
	wantNoneInAnyOrder(t, 0, 1, 2)
	wantNoneInAnyOrder(t, 0, 15, 15, 15)
	wantNoneInAnyOrder(t, 0, 1, 2, 4)
}

func TestMaskOfHigherBitsAlone(t *testing.T) {
	for mask := 16; mask < 256; mask += 16 {
		wantNone(t, uint8(mask))
		wantNoneInAnyOrder(t, uint8(mask), 15)
		wantNoneInAnyOrder(t, uint8(mask), 15, 15, 15)
	}
	wantNone(t, 16, 32, 64, 128)
}

func TestTwoMasksOfOneSlot(t *testing.T) {
	for _, power := range powers {
		one := uint8(power)
		wantNone(t, one, one)
		wantNone(t, one+16, one+128)
		wantNoneInAnyOrder(t, one, one, 15)
		wantNoneInAnyOrder(t, one, one, 15, 15)
	}
}

func TestThreeMasksOfTwoSlots(t *testing.T) {
	for _, two := range []uint8{3, 5, 6, 9, 10, 12} {
		wantNone(t, two, two, two)
		wantNoneInAnyOrder(t, two, two, two, 15)
	}
	wantNoneInAnyOrder(t, 12, 12, 8)
	wantNoneInAnyOrder(t, 12, 4, 8)
	wantNoneInAnyOrder(t, 3, 3, 1, 15)
	wantNoneInAnyOrder(t, 7, 7, 7, 7)
}

func TestMoreMasksThanFour(t *testing.T) {
	for n := 5; n < 40; n++ {
		wantNone(t, slices.Repeat([]uint8{15}, n)...)
		wantNone(t, slices.Repeat([]uint8{255}, n)...)
		wantNone(t, slices.Repeat([]uint8{0}, n)...)
		wantNone(t, slices.Repeat([]uint8{1, 2, 4, 8}, n)[:n]...)
	}
	for _, masks := range sequences(5, 4) {
		wantNone(t, uint8(powers[masks[0]]), uint8(powers[masks[1]]), uint8(powers[masks[2]]), uint8(powers[masks[3]]), uint8(powers[masks[4]]))
	}
	wantNone(t, 1, 2, 4, 8, 0)
	wantNone(t, 0, 1, 2, 4, 8)
}

// P9.2

func TestEnoughSlotsForEachSubset(t *testing.T) {
	for n := range 5 {
		eachLow(n, func(masks []uint8) {
			want := enough(masks)
			if _, ok := match.Slots(masks...); ok != want || match.Fits(masks...) != want {
				t.Errorf("%d: Slots %t, Fits %t, not %t", masks, ok, match.Fits(masks...), want)
			}
		})
	}
	for _, masks := range [][]uint8{{15, 15, 15, 15, 15}, {1, 2, 4, 8, 15}, {1, 2, 4, 8, 0, 0}} {
		if enough(masks) || match.Fits(masks...) {
			t.Errorf("%d: enough is %t, Fits is %t", masks, enough(masks), match.Fits(masks...))
		}
	}
}

// Only masks that do not descend are put in every order: all others are one of these orders.
func TestFitsInEveryOrder(t *testing.T) {
	for n := range 5 {
		eachLow(n, func(masks []uint8) {
			if !slices.IsSorted(masks) {
				return
			}
			want := match.Fits(masks...)
			for order := range arrange.Orders(masks) {
				if _, ok := match.Slots(order...); ok != want || match.Fits(order...) != want {
					t.Errorf("%d: Slots %t, Fits %t, but Fits(%d) is %t", order, ok, match.Fits(order...), masks, want)
				}
			}
		})
	}
}

// R1, R3, R4

func TestVeryManyMasks(t *testing.T) {
	wantVeryMany := func(mask uint8) {
		masks := slices.Repeat([]uint8{mask}, 1<<20)
		if got, ok := match.Slots(masks...); ok || len(got) != 0 || match.Fits(masks...) {
			t.Errorf("2^20 masks of %d: %d, %t, %t", mask, got, ok, match.Fits(masks...))
		}
	}
	wantVeryMany(0)
	wantVeryMany(15)
	wantVeryMany(math.MaxUint8)
}

func TestMasksStayAsTheyAre(t *testing.T) {
	for _, masks := range [][]uint8{{}, {15}, {255, 3, 0xf1}, {9, 5, 6, 2}, {12, 12, 12}, {0}, {15, 15, 15, 15, 15}} {
		room := append(slices.Clone(masks), 77, 78, 79, 80)
		kept := slices.Clone(room)
		handed := room[:len(masks)]
		match.Slots(handed...)
		match.Fits(handed...)
		if !slices.Equal(room, kept) {
			t.Errorf("%d became %d", kept, room)
		}
	}
}

func TestResultsAreMemoryOfTheirOwn(t *testing.T) {
	masks := []uint8{9, 5, 6, 2}
	want := []int{3, 0, 2, 1}
	first, _ := match.Slots(masks...)
	second, _ := match.Slots(masks...)
	for _, x := range [][]int{first, second} {
		x = x[:cap(x)]
		for i := range x {
			x[i] = 99
		}
		third, ok := match.Slots(masks...)
		if !ok || !slices.Equal(third, want) {
			t.Errorf("after a result was written over: %d, %t", third, ok)
		}
	}
	first, _ = match.Slots(masks...)
	second, _ = match.Slots(masks...)
	clear(first[:cap(first)])
	if !slices.Equal(second, want) {
		t.Errorf("one result written over changed another one to %d", second)
	}
	masks[0] = 0
	if !slices.Equal(second, want) {
		t.Errorf("masks written over changed the result to %d", second)
	}
}

func TestResultsAreTheSameEachTime(t *testing.T) {
	wantSlots(t, []uint8{15, 7, 3, 1}, 3, 2, 1, 0)
	wantNone(t, 1, 1)
	wantSlots(t, []uint8{15, 7, 3, 1}, 3, 2, 1, 0)
	wantNone(t, 15, 15, 15, 15, 15)
	wantSlots(t, nil)
	wantSlots(t, []uint8{15}, 0)
	wantNone(t, 1, 1)
}
