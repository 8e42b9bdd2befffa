package cplx_test

import (
	"math"
	"testing"

	"coxless/cplx"
)

// halves are the borders of signed 16-bit numbers, values about 0 and about the powers of two, and mixtures.
var halves = []int64{
	-32768, -32767, -32766, -23171, -23170, -16385, -16384, -16383, -12345, -256, -182, -181, -3, -2, -1,
	0, 1, 2, 3, 181, 182, 255, 256, 12345, 16383, 16384, 16385, 23170, 23171, 32766, 32767,
}

// number is a complex number whose parts are integers, so that the tests share no float with the program.
type number struct{ re, im int64 }

func (x number) conjugate() number {
	return number{x.re, -x.im}
}

func (x number) times(y number) number {
	return number{x.re*y.re - x.im*y.im, x.re*y.im + x.im*y.re}
}

// word is the word with these parts, each from -32768 to 32767.
func (x number) word() uint32 {
	return uint32((x.im+65536)%65536*65536 + (x.re+65536)%65536)
}

func signedHalf(v int64) int64 {
	if v >= 32768 {
		return v - 65536
	}
	return v
}

func numberOf(w uint32) number {
	return number{signedHalf(int64(w) % 65536), signedHalf(int64(w) / 65536)}
}

// packedPart rounds down by the remainder, since Go's division of integers rounds to 0.
func packedPart(v int64) int64 {
	remainder := v % 32768
	if remainder < 0 {
		remainder += 32768
	}
	quotient := (v - remainder) / 32768
	if quotient < -32768 {
		return -32768
	}
	if quotient > 32767 {
		return 32767
	}
	return quotient
}

func (x number) packed() uint32 {
	return number{packedPart(x.re), packedPart(x.im)}.word()
}

func (x number) complex() complex128 {
	return complex(float64(x.re), float64(x.im))
}

func eachSample(do func(x number)) {
	for _, re := range halves {
		for _, im := range halves {
			do(number{re, im})
		}
	}
}

// eachPair goes through pairs of the samples, and through words that steps by odd numbers mix.
func eachPair(do func(a, b uint32)) {
	eachSample(func(x number) {
		eachSample(func(y number) { do(x.word(), y.word()) })
	})
	a, b := uint32(1), uint32(0x80000000)
	for range 1 << 18 {
		do(a, b)
		a, b = a*0x9e3779b1+0x7f4a7c15, b*0x85ebca6b+0xc2b2ae35
	}
}

// P2.1

func TestOfExamples(t *testing.T) {
	for _, x := range []struct {
		w    uint32
		want complex128
	}{
		{0xffff0003, complex(3, -1)},
		{0, 0},
		{1, 1},
		{0x00010000, complex(0, 1)},
		{0xffffffff, complex(-1, -1)},
		{0x80007fff, complex(32767, -32768)},
		{0x7fff8000, complex(-32768, 32767)},
		{0x0000ffff, complex(-1, 0)},
		{0xffff0000, complex(0, -1)},
		{0x12345678, complex(0x5678, 0x1234)},
	} {
		if got := cplx.Of(x.w); got != x.want {
			t.Errorf("Of(%#x): %v, not %v", x.w, got, x.want)
		}
	}
}

func TestOfIsTheSignedHalves(t *testing.T) {
	check := func(w uint32) {
		if got, want := cplx.Of(w), numberOf(w).complex(); got != want {
			t.Errorf("Of(%#x): %v, not %v", w, got, want)
		}
	}
	for half := uint32(0); half < 1<<16; half++ {
		for _, other := range []uint32{0, 1, 0x7fff, 0x8000, 0xffff} {
			check(half<<16 | other)
			check(other<<16 | half)
		}
	}
}

// parts are parts of a number to pack, and what each becomes.
var parts = []struct {
	part float64
	want int64
}{
	{0, 0},
	{math.Copysign(0, -1), 0},
	{0.5, 0},
	{1, 0},
	{math.SmallestNonzeroFloat64, 0},
	{32767, 0},
	{32767.999, 0},
	{32768, 1},
	{32768.5, 1},
	{65535.999, 1},
	{65536, 2},
	{-math.SmallestNonzeroFloat64, -1},
	{-1e-310, -1},
	{-1e-300, -1},
	{-0.5, -1},
	{-1, -1},
	{-32767.5, -1},
	{-32768, -1},
	{-32768.001, -2},
	{-32769, -2},
	{-65536, -2},
	{-65537, -3},
	{32766*32768 + 32767.5, 32766},
	{32767 * 32768, 32767},
	{32767*32768 + 32767.5, 32767},
	{32768 * 32768, 32767},
	{32768*32768 + 32768, 32767},
	{-32767 * 32768, -32767},
	{-32767*32768 - 0.5, -32768},
	{-32768*32768 + 1, -32768},
	{-32768 * 32768, -32768},
	{-32768*32768 - 0.5, -32768},
	{-32769 * 32768, -32768},
	{65536 * 32768, 32767},
	{-65536 * 32768, -32768},
	{65537 * 32768, 32767},
	{-65537 * 32768, -32768},
	{1 << 46, 32767},
	{-(1 << 47), -32768},
	{1 << 63, 32767},
	{-(1 << 63), -32768},
	{1 << 64, 32767},
	{1<<79 + 1<<30, 32767},
	{1e300, 32767},
	{-1e300, -32768},
	{math.MaxFloat64, 32767},
	{-math.MaxFloat64, -32768},
	{math.Inf(1), 32767},
	{math.Inf(-1), -32768},
	{math.NaN(), 0},
	{math.Copysign(math.NaN(), -1), 0},
	{math.Float64frombits(0x7ff0000000000001), 0},
}

func TestPackOfEachTwoParts(t *testing.T) {
	for _, re := range parts {
		for _, im := range parts {
			c, want := complex(re.part, im.part), number{re.want, im.want}.word()
			if got := cplx.Pack(c); got != want {
				t.Errorf("Pack(%v): %#08x, not %#08x", c, got, want)
			}
		}
	}
}

func TestPackExamples(t *testing.T) {
	nan, inf := math.NaN(), math.Inf(1)
	for _, x := range []struct {
		c    complex128
		want uint32
	}{
		{complex(nan, inf), 0x7fff0000},
		{complex(nan, nan), 0},
		{complex(-inf, inf), 0x7fff8000},
		{complex(inf, -inf), 0x80007fff},
		{complex(-1, 32768), 0x0001ffff},
		{complex(32768, -1), 0xffff0001},
		{complex(1<<31, -(1 << 31)), 0x80007fff},
	} {
		if got := cplx.Pack(x.c); got != x.want {
			t.Errorf("Pack(%v): %#08x, not %#08x", x.c, got, x.want)
		}
	}
}

func TestPackAtTheBordersOfEachValue(t *testing.T) {
	for v := int64(-32770); v <= 32770; v++ {
		for _, rest := range []int64{-1, 0, 1, 16384, 32767} {
			x := number{v*32768 + rest, -v*32768 - rest}
			if got, want := cplx.Pack(x.complex()), x.packed(); got != want {
				t.Errorf("Pack(%v): %#08x, not %#08x", x.complex(), got, want)
			}
			if got, want := cplx.Pack(x.conjugate().complex()), x.conjugate().packed(); got != want {
				t.Errorf("Pack(%v): %#08x, not %#08x", x.conjugate().complex(), got, want)
			}
		}
	}
}

// P2.2

func TestProductExamples(t *testing.T) {
	for _, x := range []struct{ a, b, mul, conj uint32 }{
		{0x00004000, 0x00004000, 0x00002000, 0x00002000},
		{0x40000000, 0x40000000, 0x0000e000, 0x00002000},
		{0x80008000, 0x80008000, 0x7fff0000, 0x00007fff},
		{0x00008000, 0x00008000, 0x00007fff, 0x00007fff},
		{0x80000000, 0x80000000, 0x00008000, 0x00007fff},
		{0x80007fff, 0x7fff8000, 0x7fff0000, 0x00018000},
		{0x7fff7fff, 0x7fff7fff, 0x7fff0000, 0x00007fff},
		{0x80008000, 0x7fff7fff, 0x80000000, 0x00008000},
		{0x7fff8000, 0x7fff7fff, 0xffff8000, 0x7fffffff},
		{0x0000ffff, 0x00000001, 0x0000ffff, 0x0000ffff},
		{0x0000ffff, 0x0000ffff, 0x00000000, 0x00000000},
		{0x00010000, 0x00010000, 0x0000ffff, 0x00000000},
		{0x00010000, 0x00000001, 0x00000000, 0x00000000},
		{0x00000001, 0x00010000, 0x00000000, 0xffff0000},
		{0x00000000, 0x12345678, 0x00000000, 0x00000000},
		{0x12345678, 0xffffffff, 0xffffffff, 0x0000ffff},
	} {
		if got := cplx.Mul(x.a, x.b); got != x.mul {
			t.Errorf("Mul(%#08x, %#08x): %#08x, not %#08x", x.a, x.b, got, x.mul)
		}
		if got := cplx.MulConj(x.a, x.b); got != x.conj {
			t.Errorf("MulConj(%#08x, %#08x): %#08x, not %#08x", x.a, x.b, got, x.conj)
		}
	}
}

func TestProductsAreThoseOfTheNumbers(t *testing.T) {
	eachPair(func(a, b uint32) {
		x, y := numberOf(a), numberOf(b)
		if got, want := cplx.Mul(a, b), x.times(y).packed(); got != want {
			t.Errorf("Mul(%#08x, %#08x): %#08x, not %#08x", a, b, got, want)
		}
		if got, want := cplx.MulConj(a, b), x.times(y.conjugate()).packed(); got != want {
			t.Errorf("MulConj(%#08x, %#08x): %#08x, not %#08x", a, b, got, want)
		}
	})
}

// P2.3

func TestMulIsCommutative(t *testing.T) {
	eachPair(func(a, b uint32) {
		if one, other := cplx.Mul(a, b), cplx.Mul(b, a); one != other {
			t.Errorf("Mul(%#08x, %#08x): %#08x, and the other way round %#08x", a, b, one, other)
		}
	})
}

func nearly(v, w int64) bool {
	return v-w >= -1 && v-w <= 1
}

func TestMulConjTheOtherWayRoundIsTheConjugate(t *testing.T) {
	eachPair(func(a, b uint32) {
		one, other := numberOf(cplx.MulConj(a, b)).conjugate(), numberOf(cplx.MulConj(b, a))
		if !nearly(one.re, other.re) || !nearly(one.im, other.im) {
			t.Errorf("MulConj(%#08x, %#08x) conjugated: %v, and the other way round: %v", a, b, one, other)
		}
	})
}

func TestProductWithTheOwnConjugate(t *testing.T) {
	check := func(w uint32) {
		if got := numberOf(cplx.MulConj(w, w)); got.im != 0 || got.re < 0 {
			t.Errorf("MulConj of twice %#08x: %v", w, got)
		}
	}
	eachSample(func(x number) { check(x.word()) })
	for w, k := uint32(0), 0; k < 1<<18; w, k = w+0x9e3779b1, k+1 {
		check(w)
	}
}

func TestProductsOfNumbersAreExact(t *testing.T) {
	eachPair(func(a, b uint32) {
		got, want := cplx.Of(a)*cplx.Of(b), numberOf(a).times(numberOf(b))
		if got != want.complex() || math.Abs(real(got)) > 1<<31 || math.Abs(imag(got)) > 1<<31 {
			t.Errorf("Of(%#08x) * Of(%#08x): %v, not %v", a, b, got, want)
		}
	})
}
