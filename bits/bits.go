// Package bits is layer 1: see shared/doc/01-bits.md.
package bits

const wordBits = 32

// part numbers what a word consists of.
type part uint8

const (
	codePart    part = 1
	payloadPart part = 2
	parsePart   part = 3
	thirtyPart  part = 4
)

// piece is a run of n bits that a part has in common with the word: at is its position in the word, from its position in the part.
type piece struct {
	of          part
	at, n, from int
}

// The payload and the thirty bits go around the parse bits, hence two pieces each.
var pieces = [6]piece{
	{codePart, 26, 6, 0},
	{payloadPart, 16, 10, 14},
	{payloadPart, 0, 14, 0},
	{parsePart, 14, 2, 0},
	{thirtyPart, 16, 16, 14},
	{thirtyPart, 0, 14, 0},
}

// isField compares with a difference, since the sum of the two could wrap round.
func isField(at, n int) bool {
	return at >= 0 && n >= 0 && at <= wordBits-n
}

// lowMask relies on a shift by 32 giving 0: the mask of 32 bits is then all ones.
func lowMask(n int) uint32 {
	return uint32(1)<<n - 1
}

// Get returns the value of the field of n bits at a position, or 0 if there is no such field.
func Get(w uint32, at, n int) uint32 {
	if !isField(at, n) {
		return 0
	}
	return w >> at & lowMask(n)
}

// Put returns w with that field replaced by the lowest n bits of v, or w itself if there is no such field.
func Put(w uint32, at, n int, v uint32) uint32 {
	if !isField(at, n) {
		return w
	}
	mask := lowMask(n) << at
	return w&^mask | v<<at&mask
}

// Sext returns the lowest n bits of v as a signed number, or 0 if n is not from 1 to 32.
func Sext(v uint32, n int) int64 {
	if n < 1 || n > wordBits {
		return 0
	}
	low := int64(Get(v, 0, n))
	if low >= int64(1)<<(n-1) {
		low -= int64(1) << n
	}
	return low
}

// Fits reports whether v is a multiple of 2^scale whose quotient is a number of n bits.
func Fits(v int64, n, scale int, signed bool) bool {
	if n < 1 || n > wordBits || scale < 0 || scale > 8 {
		return false
	}
	unit := int64(1) << scale
	if v%unit != 0 {
		return false
	}
	least, most := int64(0), int64(1)<<n-1
	if signed {
		least, most = -(int64(1) << (n - 1)), int64(1)<<(n-1)-1
	}
	quotient := v / unit
	return least <= quotient && quotient <= most
}

func getPart(w uint32, of part) uint32 {
	v := uint32(0)
	for _, p := range pieces {
		if p.of == of {
			v = Put(v, p.from, p.n, Get(w, p.at, p.n))
		}
	}
	return v
}

func putPart(w uint32, of part, v uint32) uint32 {
	for _, p := range pieces {
		if p.of == of {
			w = Put(w, p.at, p.n, Get(v, p.from, p.n))
		}
	}
	return w
}

// Word returns the word with these parts, of which the lowest 6, 24 and 2 bits are used.
func Word(code uint8, payload uint32, parse uint8) uint32 {
	w := putPart(0, codePart, uint32(code))
	w = putPart(w, payloadPart, payload)
	return putPart(w, parsePart, uint32(parse))
}

// Parts returns what Word makes w of.
func Parts(w uint32) (code uint8, payload uint32, parse uint8) {
	return uint8(getPart(w, codePart)), getPart(w, payloadPart), uint8(getPart(w, parsePart))
}

// Thirty returns all bits of w but the parse bits.
func Thirty(w uint32) uint32 {
	return getPart(w, thirtyPart)
}

// FromThirty returns the word with these thirty bits and these parse bits, of which the lowest 30 and 2 bits are used.
func FromThirty(v uint32, parse uint8) uint32 {
	w := putPart(0, thirtyPart, v)
	return putPart(w, parsePart, uint32(parse))
}
