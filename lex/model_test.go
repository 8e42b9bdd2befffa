package lex_test

import (
	"math/big"
	"regexp"
	"slices"
	"strings"
	"testing"

	"coxless/api"
	"coxless/arrange"
	"coxless/lex"
)

// What a line may go on with, each after the chapter's words: blanks or a comment, a name, a word that begins with a digit, a sign, and any one byte.
var parts = regexp.MustCompile(`^(?s:([ \t\r]+|//.*)|([A-Za-z_.][A-Za-z0-9_.]*)|([0-9][A-Za-z0-9_]*)|(##|[{};:(),=+\-*!#])|.)`)

var numbers = regexp.MustCompile(`^(?:[0-9]+|0[xX]([0-9a-fA-F]+))$`)

// modelNumber tells what a word that begins with a digit is.
func modelNumber(word string) (int64, api.Errno) {
	found := numbers.FindStringSubmatch(word)
	if found == nil {
		return 0, api.ErrForm
	}
	v, _ := new(big.Int).SetString(word, 10)
	if found[1] != "" {
		v, _ = new(big.Int).SetString(found[1], 16)
	}
	if v.Cmp(new(big.Int).Lsh(big.NewInt(1), 40)) > 0 {
		return 0, api.ErrRange
	}
	return v.Int64(), api.OK
}

// modelPart tells the token, if any, and what is wrong, of one part of a line.
func modelPart(found []int, part string) (k lex.Token, wrong api.Errno) {
	switch {
	case found[2] >= 0:
		return lex.Token{}, api.OK
	case found[4] >= 0 && len(part) > 32:
		return lex.Token{}, api.ErrLong
	case found[4] >= 0:
		return lex.Token{Kind: lex.KName, Text: part}, api.OK
	case found[6] >= 0:
		v, wrong := modelNumber(part)
		if wrong != api.OK {
			return lex.Token{}, wrong
		}
		return lex.Token{Kind: lex.KNumber, Text: part, V: v}, api.OK
	case found[8] >= 0:
		return lex.Token{Kind: lex.KSign, Text: part}, api.OK
	}
	return lex.Token{}, api.ErrForm
}

// model splits a text line by line.
func model(text string) (l []lex.Token, diags []api.Diag) {
	for i, line := range strings.Split(text, "\n") {
		at := 0
		for at < len(line) {
			found := parts.FindStringSubmatchIndex(line[at:])
			part := line[at : at+found[1]]
			k, wrong := modelPart(found, part)
			k.Line, k.Col = i+1, at+1
			if k.Kind != 0 {
				l = append(l, k)
			}
			if wrong != api.OK && len(diags) < 100 {
				diags = append(diags, api.Diag{Line: i + 1, Col: at + 1, Code: wrong})
			}
			if k.Kind == 0 && wrong == api.ErrForm && part[0] >= 128 {
				part = part[:1]
			}
			at += len(part)
		}
		l = append(l, lex.Token{Kind: lex.KEnd, Line: i + 1, Col: at + 1})
	}
	return l, diags
}

// checkModel asks for what the model tells.
func checkModel(t *testing.T, text string) {
	t.Helper()
	want, wrong := model(text)
	l, diags := lex.Split(text)
	if !slices.Equal(l, want) || !slices.Equal(diags, wrong) {
		t.Errorf("%q: %s, %s, not %s, %s", text, toldPlaces(l), toldDiags(diags), toldPlaces(want), toldDiags(wrong))
	}
}

// texts goes through all texts of up to n of the pieces.
func texts(pieces []string, n int, do func(text string)) {
	for l := range arrange.Sequences(pieces, n) {
		do(strings.Join(l, ""))
	}
}

// pieces are of every state that a text may be in, and of what is wrong.
var pieces = []string{"a", "x", "F", ".", "_", "0", "1", "#", "+", "/", " ", "\n", "%", "\xe9"}

// longer are pieces of which few reach a limit.
var longer = []string{
	"a", "0x", "9", "1099511627776", "1099511627777", "0x10000000000", strings.Repeat("0", 31), strings.Repeat("n", 32), "\u00e4",
	"##", "//", "\t", "\r\n", "\n", "\x00", strings.Repeat("?", 99), strings.Repeat("?", 100),
}

func TestAllShortTexts(t *testing.T) {
	texts(pieces, 4, func(text string) { checkModel(t, text) })
}

func TestAllTextsOfLongerPieces(t *testing.T) {
	texts(longer, 3, func(text string) { checkModel(t, text) })
}

func TestEveryTwoBytes(t *testing.T) {
	for c := range 256 {
		for d := range 256 {
			checkModel(t, string([]byte{byte(c), byte(d)}))
			checkModel(t, string([]byte{'a', byte(c), '0', byte(d), '#', '\n', '1'}))
		}
	}
}

// P14.2

// unplaced are the tokens without their positions.
func unplaced(l []lex.Token) []lex.Token {
	l = slices.Clone(l)
	for i := range l {
		l[i].Line, l[i].Col = 0, 0
	}
	return l
}

// written writes the tokens out with the blanks between, and a LF for each end but the last.
func written(l []lex.Token, blanks string) string {
	var out []string
	for i, k := range l {
		switch {
		case k.Kind != lex.KEnd:
			out = append(out, k.Text)
		case i < len(l)-1:
			out = append(out, "\n")
		}
	}
	return strings.Join(out, blanks)
}

func checkWritten(t *testing.T, text string) {
	t.Helper()
	l, _ := lex.Split(text)
	for _, blanks := range []string{" ", "\t", "\r", " \t\r "} {
		again, diags := lex.Split(written(l, blanks))
		if !slices.Equal(unplaced(again), unplaced(l)) || len(diags) != 0 {
			t.Errorf("%q: %s, and written again %s, %s", text, told(l), told(again), toldDiags(diags))
		}
	}
}

func TestTokensWrittenAgain(t *testing.T) {
	texts(pieces, 3, func(text string) { checkWritten(t, text) })
	texts(longer, 2, func(text string) { checkWritten(t, text) })
	checkWritten(t, "{ if (!p0.new) r1=add(r2,##0x1F); memb(r2+#-1)=r3.new }:raw//x\n\nL_1: .org 4*(N-1) //\n#### ###\r\n")
}

// checkBehind asks for what both texts have, the second one's lines counted on.
func checkBehind(t *testing.T, a, b string) {
	t.Helper()
	want, wrong := lex.Split(a)
	l, diags := lex.Split(b)
	lines := 1 + strings.Count(a, "\n")
	for i := range l {
		l[i].Line += lines
	}
	for i := range diags {
		diags[i].Line += lines
	}
	want, wrong = append(want, l...), append(wrong, diags...)
	got, gotWrong := lex.Split(a + "\n" + b)
	if !slices.Equal(got, want) || !slices.Equal(gotWrong, wrong[:min(len(wrong), 100)]) {
		t.Errorf("%q, %q: %s, %s, not %s, %s", a, b, toldPlaces(got), toldDiags(gotWrong), toldPlaces(want), toldDiags(wrong))
	}
}

func TestAfterAnEndAllIsAsAlone(t *testing.T) {
	for _, l := range [][]string{pieces, longer} {
		texts(l, 2, func(a string) {
			texts(l, 2, func(b string) { checkBehind(t, a, b) })
		})
	}
}
