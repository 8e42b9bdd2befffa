package bits_test

import (
	"math"
	"testing"

	"coxless/bits"
)

// samples are words in which single bits, borders of the parts and mixtures show.
var samples = []uint32{
	0, 1, 2, 0x80000000, 0xffffffff, 0x55555555, 0xaaaaaaaa, 0x12345678, 0xfedcba98,
	0xfc000000, 0x03ff0000, 0x0000c000, 0x00003fff, 0xffff3fff, 0x04008000, 0x00014001, 0x0400c000,
}

// oddNumbers are positions and widths of which none belongs to a field; sums of some of them wrap round.
var oddNumbers = []int{-1, -2, -31, -32, -33, 33, 34, 64, 1 << 20, 1 << 32, -(1 << 32), math.MaxInt, math.MaxInt - 31, math.MinInt, math.MinInt + 32}

// bit is told apart by halving, so that the tests share no shift or mask with the program.
func bit(w uint32, at int) bool {
	for range at {
		w /= 2
	}
	return w%2 == 1
}

// fromBits is the number whose bit k is what is says of k, for k below n.
func fromBits(n int, is func(k int) bool) uint32 {
	v := uint32(0)
	for k := n - 1; k >= 0; k-- {
		v *= 2
		if is(k) {
			v++
		}
	}
	return v
}

func power(n int) int64 {
	v := int64(1)
	for range n {
		v *= 2
	}
	return v
}

func eachField(do func(at, n int)) {
	for at := 0; at <= 32; at++ {
		for n := 0; at+n <= 32; n++ {
			do(at, n)
		}
	}
}

// eachNoField gives positions and widths of which at least one, or their sum, is out of bounds.
func eachNoField(do func(at, n int)) {
	for at := 0; at <= 32; at++ {
		for n := 33 - at; n <= 40; n++ {
			do(at, n)
		}
	}
	for _, x := range oddNumbers {
		for k := 0; k <= 32; k++ {
			do(x, k)
			do(k, x)
		}
		for _, y := range oddNumbers {
			do(x, y)
		}
	}
}

// P1.1

func TestGetExamples(t *testing.T) {
	for _, x := range []struct {
		w     uint32
		at, n int
		want  uint32
	}{
		{0xf0, 4, 8, 15},
		{1, 31, 2, 0},
		{0x12345678, 8, 12, 0x456},
		{0x12345678, 0, 32, 0x12345678},
		{0xffffffff, 32, 0, 0},
		{0xffffffff, 0, 0, 0},
		{0x80000000, 31, 1, 1},
		{0xffffffff, -1, 2, 0},
		{0xffffffff, 2, -1, 0},
		{0xffffffff, 16, 17, 0},
	} {
		if got := bits.Get(x.w, x.at, x.n); got != x.want {
			t.Errorf("Get(%#x, %d, %d): %#x, not %#x", x.w, x.at, x.n, got, x.want)
		}
	}
}

func TestGetIsTheFieldsBits(t *testing.T) {
	for _, w := range samples {
		eachField(func(at, n int) {
			want := fromBits(n, func(k int) bool { return bit(w, at+k) })
			if got := bits.Get(w, at, n); got != want {
				t.Errorf("Get(%#x, %d, %d): %#x, not %#x", w, at, n, got, want)
			}
		})
	}
}

func TestGetOfNoField(t *testing.T) {
	eachNoField(func(at, n int) {
		if got := bits.Get(0xffffffff, at, n); got != 0 {
			t.Errorf("Get(0xffffffff, %d, %d): %#x, not 0", at, n, got)
		}
	})
}

func TestPutExamples(t *testing.T) {
	for _, x := range []struct {
		w     uint32
		at, n int
		v     uint32
		want  uint32
	}{
		{0, 4, 4, 0x1f, 0xf0},
		{0xffffffff, 8, 8, 0, 0xffff00ff},
		{0x12345678, 0, 32, 0xabcdef01, 0xabcdef01},
		{0x12345678, 0, 0, 0xffffffff, 0x12345678},
		{0x12345678, 32, 0, 0xffffffff, 0x12345678},
		{0, 31, 1, 3, 0x80000000},
		{0x12345678, 0, 33, 0, 0x12345678},
		{0x12345678, 31, 2, 0xffffffff, 0x12345678},
		{0x12345678, -4, 8, 0xffffffff, 0x12345678},
		{0x12345678, 4, -8, 0xffffffff, 0x12345678},
	} {
		if got := bits.Put(x.w, x.at, x.n, x.v); got != x.want {
			t.Errorf("Put(%#x, %d, %d, %#x): %#x, not %#x", x.w, x.at, x.n, x.v, got, x.want)
		}
	}
}

func TestPutIsTheLowestBitsOfTheValue(t *testing.T) {
	for _, w := range samples {
		for _, v := range samples {
			eachField(func(at, n int) {
				want := fromBits(32, func(k int) bool {
					if k >= at && k < at+n {
						return bit(v, k-at)
					}
					return bit(w, k)
				})
				if got := bits.Put(w, at, n, v); got != want {
					t.Errorf("Put(%#x, %d, %d, %#x): %#x, not %#x", w, at, n, v, got, want)
				}
			})
		}
	}
}

func TestPutOfNoField(t *testing.T) {
	eachNoField(func(at, n int) {
		for _, w := range []uint32{0, 0x12345678, 0xffffffff} {
			if got := bits.Put(w, at, n, ^w); got != w {
				t.Errorf("Put(%#x, %d, %d, %#x): %#x, not the word itself", w, at, n, ^w, got)
			}
		}
	})
}

func TestSextExamples(t *testing.T) {
	for _, x := range []struct {
		v    uint32
		n    int
		want int64
	}{
		{0xff, 8, -1},
		{0x7f, 8, 127},
		{0x80, 8, -128},
		{0x17f, 8, 127},
		{0x180, 8, -128},
		{0, 1, 0},
		{1, 1, -1},
		{2, 1, 0},
		{0x7fffffff, 32, 1<<31 - 1},
		{0x80000000, 32, -1 << 31},
		{0xffffffff, 32, -1},
		{0x7fffffff, 31, -1},
		{5, 0, 0},
		{5, 33, 0},
	} {
		if got := bits.Sext(x.v, x.n); got != x.want {
			t.Errorf("Sext(%#x, %d): %d, not %d", x.v, x.n, got, x.want)
		}
	}
}

func TestSextIsTwosComplement(t *testing.T) {
	for _, v := range samples {
		for n := 1; n <= 32; n++ {
			want := int64(0)
			for k := range n {
				if bit(v, k) && k < n-1 {
					want += power(k)
				} else if bit(v, k) {
					want -= power(k)
				}
			}
			if got := bits.Sext(v, n); got != want {
				t.Errorf("Sext(%#x, %d): %d, not %d", v, n, got, want)
			}
		}
	}
}

func TestSextOfNoWidth(t *testing.T) {
	for _, n := range append(oddNumbers, 0) {
		if got := bits.Sext(0xffffffff, n); got != 0 {
			t.Errorf("Sext(0xffffffff, %d): %d, not 0", n, got)
		}
	}
}

// P1.2

func TestFitsExamples(t *testing.T) {
	for _, x := range []struct {
		v        int64
		n, scale int
		signed   bool
		want     bool
	}{
		{-128, 8, 0, true, true},
		{128, 8, 0, true, false},
		{6, 8, 2, false, false},
		{1020, 8, 2, false, true},
		{1024, 8, 2, false, false},
		{-4, 8, 2, false, false},
		{-4, 8, 2, true, true},
		{-6, 8, 2, true, false},
		{0, 1, 8, true, true},
		{-256, 1, 8, true, true},
		{256, 1, 8, true, false},
		{256, 1, 8, false, true},
		{0, 0, 0, true, false},
		{0, 0, 0, false, false},
		{0, 33, 0, true, false},
		{0, 8, 9, false, false},
		{0, 8, -1, false, false},
	} {
		if got := bits.Fits(x.v, x.n, x.scale, x.signed); got != x.want {
			t.Errorf("Fits(%d, %d, %d, %v): %v", x.v, x.n, x.scale, x.signed, got)
		}
	}
}

func wantFits(t *testing.T, v int64, n, scale int, signed, want bool) {
	t.Helper()
	if got := bits.Fits(v, n, scale, signed); got != want {
		t.Errorf("Fits(%d, %d, %d, %v): %v", v, n, scale, signed, got)
	}
}

func TestFitsAtTheBordersOfEachField(t *testing.T) {
	for n := 1; n <= 32; n++ {
		for scale := 0; scale <= 8; scale++ {
			unit := power(scale)
			for _, signed := range []bool{false, true} {
				least, most := int64(0), power(n)-1
				if signed {
					least, most = -power(n-1), power(n-1)-1
				}
				wantFits(t, 0, n, scale, signed, true)
				wantFits(t, least*unit, n, scale, signed, true)
				wantFits(t, most*unit, n, scale, signed, true)
				wantFits(t, (least-1)*unit, n, scale, signed, false)
				wantFits(t, (most+1)*unit, n, scale, signed, false)
				for part := int64(1); part < unit; part++ {
					wantFits(t, part, n, scale, signed, false)
					wantFits(t, -part, n, scale, signed, false)
					wantFits(t, most*unit-part, n, scale, signed, false)
				}
			}
		}
	}
}

func TestFitsFarValues(t *testing.T) {
	far := []int64{math.MaxInt64, math.MinInt64, math.MinInt64 + 1, 1 << 40, -(1 << 40), 1 << 62, math.MaxInt64 - 255}
	for _, v := range far {
		for scale := 0; scale <= 8; scale++ {
			wantFits(t, v, 32, scale, true, false)
			wantFits(t, v, 32, scale, false, false)
		}
	}
	wantFits(t, (1<<32-1)*256, 32, 8, false, true)
	wantFits(t, -(1<<31)*256, 32, 8, true, true)
}

func TestFitsOfNoWidthOrScale(t *testing.T) {
	scales := append([]int{9, 10, 31, 32, 63}, oddNumbers...)
	for _, signed := range []bool{false, true} {
		for _, n := range append(oddNumbers, 0) {
			wantFits(t, 0, n, 0, signed, false)
			wantFits(t, 0, n, 8, signed, false)
		}
		for _, scale := range scales {
			wantFits(t, 0, 8, scale, signed, false)
			wantFits(t, 0, 0, scale, signed, false)
		}
	}
}

// P1.3

func TestWordExamples(t *testing.T) {
	for _, x := range []struct {
		code    uint8
		payload uint32
		parse   uint8
		want    uint32
	}{
		{1, 0xffffff, 2, 0x07ffbfff},
		{0, 0, 0, 0},
		{63, 0, 0, 0xfc000000},
		{0, 0xffc000, 0, 0x03ff0000},
		{0, 0x003fff, 0, 0x00003fff},
		{0, 0, 3, 0x0000c000},
		{0, 0, 1, 0x00004000},
		{1, 0, 3, 0x0400c000},
		{0xff, 1<<24 | 1, 7, 0xfc00c001},
		{0x40, 0xff000000, 4, 0},
	} {
		if got := bits.Word(x.code, x.payload, x.parse); got != x.want {
			t.Errorf("Word(%d, %#x, %d): %#x, not %#x", x.code, x.payload, x.parse, got, x.want)
		}
	}
}

func TestPartsExamples(t *testing.T) {
	for _, x := range []struct {
		w       uint32
		code    uint8
		payload uint32
		parse   uint8
	}{
		{0x07ffbfff, 1, 0xffffff, 2},
		{0x0400c000, 1, 0, 3},
		{0xffff3fff, 63, 0xffffff, 0},
		{0x00010000, 0, 0x4000, 0},
		{0x00002000, 0, 0x2000, 0},
		{0x00004000, 0, 0, 1},
		{0x02000000, 0, 0x800000, 0},
		{0x04000000, 1, 0, 0},
	} {
		if code, payload, parse := bits.Parts(x.w); code != x.code || payload != x.payload || parse != x.parse {
			t.Errorf("Parts(%#x): %d, %#x, %d", x.w, code, payload, parse)
		}
	}
}

func TestPartsAreTheirBits(t *testing.T) {
	for _, w := range samples {
		code, payload, parse := bits.Parts(w)
		wantCode := fromBits(6, func(k int) bool { return bit(w, 26+k) })
		wantParse := fromBits(2, func(k int) bool { return bit(w, 14+k) })
		wantPayload := fromBits(24, func(k int) bool {
			if k < 14 {
				return bit(w, k)
			}
			return bit(w, k+2)
		})
		if uint32(code) != wantCode || payload != wantPayload || uint32(parse) != wantParse {
			t.Errorf("Parts(%#x): %d, %#x, %d", w, code, payload, parse)
		}
	}
}

func TestThirtyExamples(t *testing.T) {
	for _, x := range []struct{ w, want uint32 }{
		{0xffff3fff, 0x3fffffff},
		{0x0000c000, 0},
		{0xffffffff, 0x3fffffff},
		{0x00010000, 0x4000},
		{0x00003fff, 0x3fff},
		{0x8000c000, 1 << 29},
	} {
		if got := bits.Thirty(x.w); got != x.want {
			t.Errorf("Thirty(%#x): %#x, not %#x", x.w, got, x.want)
		}
	}
}

func TestThirtyIsItsBits(t *testing.T) {
	for _, w := range samples {
		want := fromBits(30, func(k int) bool {
			if k < 14 {
				return bit(w, k)
			}
			return bit(w, k+2)
		})
		if got := bits.Thirty(w); got != want {
			t.Errorf("Thirty(%#x): %#x, not %#x", w, got, want)
		}
	}
}

func TestFromThirtyExamples(t *testing.T) {
	for _, x := range []struct {
		v     uint32
		parse uint8
		want  uint32
	}{
		{1, 3, 0x0000c001},
		{1 << 14, 0, 0x00010000},
		{0x3fffffff, 0, 0xffff3fff},
		{0, 1, 0x00004000},
		{0, 2, 0x00008000},
		{0xc0000000, 4, 0},
		{0xffffffff, 0xfc, 0xffff3fff},
		{0xffffffff, 0xff, 0xffffffff},
	} {
		if got := bits.FromThirty(x.v, x.parse); got != x.want {
			t.Errorf("FromThirty(%#x, %d): %#x, not %#x", x.v, x.parse, got, x.want)
		}
	}
}

func TestArgumentsBeyondTheirPartsDoNotMatter(t *testing.T) {
	for _, v := range samples {
		for k := range 256 {
			small := uint8(k)
			if bits.Word(small, v, small) != bits.Word(small%64, v%(1<<24), small%4) {
				t.Errorf("Word(%d, %#x, %d) uses more than the lowest bits", small, v, small)
			}
			if bits.FromThirty(v, small) != bits.FromThirty(v%(1<<30), small%4) {
				t.Errorf("FromThirty(%#x, %d) uses more than the lowest bits", v, small)
			}
		}
	}
}

// P1.4

func TestGetReturnsWhatWasPut(t *testing.T) {
	for _, w := range samples {
		for _, v := range samples {
			eachField(func(at, n int) {
				put := bits.Put(w, at, n, v)
				if got, want := bits.Get(put, at, n), bits.Get(v, 0, n); got != want {
					t.Errorf("Get of Put(%#x, %d, %d, %#x): %#x, not %#x", w, at, n, v, got, want)
				}
				below, above := bits.Get(put, 0, at), bits.Get(put, at+n, 32-at-n)
				if below != bits.Get(w, 0, at) || above != bits.Get(w, at+n, 32-at-n) {
					t.Errorf("Put(%#x, %d, %d, %#x) changes other bits: %#x", w, at, n, v, put)
				}
			})
		}
	}
}

func TestWhatFitsIsSextOfItsLowestBits(t *testing.T) {
	for n := 1; n <= 32; n++ {
		half := power(n - 1)
		for _, v := range []int64{-half - 1, -half, -half + 1, -half / 2, -1, 0, 1, half / 3, half - 2, half - 1, half, 2*half - 1, 2 * half} {
			same := bits.Sext(bits.Get(uint32(v), 0, n), n) == v
			if fits := bits.Fits(v, n, 0, true); fits != same {
				t.Errorf("Fits(%d, %d, 0, true) is %v, but being Sext of its lowest bits is %v", v, n, fits, same)
			}
		}
	}
}

func TestWordsAreTheirParts(t *testing.T) {
	check := func(w uint32) {
		if got := bits.Word(bits.Parts(w)); got != w {
			t.Errorf("Word(Parts(%#x)): %#x", w, got)
		}
		_, _, parse := bits.Parts(w)
		if got := bits.FromThirty(bits.Thirty(w), parse); got != w {
			t.Errorf("FromThirty(Thirty(%#x), %d): %#x", w, parse, got)
		}
	}
	for _, w := range samples {
		check(w)
	}
	// Steps by an odd number meet all patterns of low bits.
	for w, k := uint32(0), 0; k < 1<<16; w, k = w+0x9e3779b1, k+1 {
		check(w)
	}
}
