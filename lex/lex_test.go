package lex_test

import (
	"fmt"
	"slices"
	"strings"
	"testing"
	"unsafe"

	"coxless/api"
	"coxless/lex"
)

// toldOf tells a token: a name as n:a, a number as 0x1F=31, a sign as it is and an end as |; anything else whole.
func toldOf(k lex.Token) string {
	switch {
	case k.Kind == lex.KName && k.V == 0:
		return "n:" + k.Text
	case k.Kind == lex.KNumber:
		return fmt.Sprintf("%s=%d", k.Text, k.V)
	case k.Kind == lex.KSign && k.V == 0:
		return k.Text
	case k.Kind == lex.KEnd && k.Text == "" && k.V == 0:
		return "|"
	}
	return fmt.Sprintf("%+v", k)
}

func told(l []lex.Token) string {
	var out []string
	for _, k := range l {
		out = append(out, toldOf(k))
	}
	return strings.Join(out, " ")
}

// toldPlaces tells the tokens with their positions.
func toldPlaces(l []lex.Token) string {
	var out []string
	for _, k := range l {
		out = append(out, fmt.Sprintf("%s@%d:%d", toldOf(k), k.Line, k.Col))
	}
	return strings.Join(out, " ")
}

func toldDiags(l []api.Diag) string {
	names := map[api.Errno]string{api.ErrLong: "long", api.ErrRange: "range", api.ErrForm: "form"}
	var out []string
	for _, d := range l {
		out = append(out, fmt.Sprintf("%s@%d:%d", names[d.Code], d.Line, d.Col))
	}
	return strings.Join(out, " ")
}

// check asks for these tokens, their positions left out, and these diagnostics.
func check(t *testing.T, text, want, wrong string) {
	t.Helper()
	l, diags := lex.Split(text)
	if got := told(l); got != want {
		t.Errorf("%.60q: %.300s, not %.300s", text, got, want)
	}
	if got := toldDiags(diags); got != wrong {
		t.Errorf("%.60q: %.300s, not %.300s", text, got, wrong)
	}
}

// checkPlaces asks for these tokens with their positions, and these diagnostics.
func checkPlaces(t *testing.T, text, want, wrong string) {
	t.Helper()
	l, diags := lex.Split(text)
	if got := toldPlaces(l); got != want {
		t.Errorf("%.60q: %.300s, not %.300s", text, got, want)
	}
	if got := toldDiags(diags); got != wrong {
		t.Errorf("%.60q: %.300s, not %.300s", text, got, wrong)
	}
}

// many is a text of n bytes, the last ones as given and all ahead of them b.
func many(b string, n int, last string) string {
	return strings.Repeat(b, n-len(last)) + last
}

// The examples of the chapter

func TestExamples(t *testing.T) {
	checkPlaces(t, "r1=add(r2,##0x1F)//x", "n:r1@1:1 =@1:3 n:add@1:4 (@1:7 n:r2@1:8 ,@1:10 ##@1:11 0x1F=31@1:13 )@1:17 |@1:21", "")
	checkPlaces(t, "L_1: .org 12", "n:L_1@1:1 :@1:4 n:.org@1:6 12=12@1:11 |@1:13", "")
	checkPlaces(t, "a %12\n1x .b", "n:a@1:1 12=12@1:4 |@1:6 n:.b@2:4 |@2:6", "form@1:3 form@2:1")
	checkPlaces(t, "1099511627777", "|@1:14", "range@1:1")
	checkPlaces(t, "0x", "|@1:3", "form@1:1")
	checkPlaces(t, "1099511627777, 0x", ",@1:14 |@1:18", "range@1:1 form@1:16")
}

func TestKinds(t *testing.T) {
	if got := [...]int{lex.KName, lex.KNumber, lex.KSign, lex.KEnd}; got != [...]int{1, 2, 3, 4} {
		t.Errorf("%v", got)
	}
	l, _ := lex.Split("a 1 +")
	want := []lex.Token{{Kind: 1, Text: "a", Line: 1, Col: 1}, {Kind: 2, Text: "1", V: 1, Line: 1, Col: 3}, {Kind: 3, Text: "+", Line: 1, Col: 5}, {Kind: 4, Line: 1, Col: 6}}
	if !slices.Equal(l, want) {
		t.Errorf("%+v, not %+v", l, want)
	}
}

// P14.1: ends, blanks and comments

func TestEnds(t *testing.T) {
	checkPlaces(t, "", "|@1:1", "")
	checkPlaces(t, "\n", "|@1:1 |@2:1", "")
	checkPlaces(t, "\n\n\n", "|@1:1 |@2:1 |@3:1 |@4:1", "")
	checkPlaces(t, "a", "n:a@1:1 |@1:2", "")
	checkPlaces(t, "a\n", "n:a@1:1 |@1:2 |@2:1", "")
	checkPlaces(t, "a\nb", "n:a@1:1 |@1:2 n:b@2:1 |@2:2", "")
	checkPlaces(t, "a\n\n b\n", "n:a@1:1 |@1:2 |@2:1 n:b@3:2 |@3:3 |@4:1", "")
	checkPlaces(t, "\na", "|@1:1 n:a@2:1 |@2:2", "")
}

func TestBlanks(t *testing.T) {
	checkPlaces(t, "  \t\r ", "|@1:6", "")
	checkPlaces(t, " \n\t\n\r\n", "|@1:2 |@2:2 |@3:2 |@4:1", "")
	checkPlaces(t, "a b\tc\rd", "n:a@1:1 n:b@1:3 n:c@1:5 n:d@1:7 |@1:8", "")
	checkPlaces(t, "\t\ta\t1", "n:a@1:3 1=1@1:5 |@1:6", "")
	checkPlaces(t, "a\r\n\r\nb\r\n", "n:a@1:1 |@1:3 |@2:2 n:b@3:1 |@3:3 |@4:1", "")
	// CR alone ends no line, and what else looks blank is none.
	checkPlaces(t, "a\rb//c\rd", "n:a@1:1 n:b@1:3 |@1:9", "")
	checkPlaces(t, "a\vb\fc\u00a0d\u2028e", "n:a@1:1 n:b@1:3 n:c@1:5 n:d@1:8 n:e@1:12 |@1:13", "form@1:2 form@1:4 form@1:6 form@1:7 form@1:9 form@1:10 form@1:11")
}

func TestComments(t *testing.T) {
	checkPlaces(t, "//", "|@1:3", "")
	checkPlaces(t, "//x", "|@1:4", "")
	checkPlaces(t, "//\n", "|@1:3 |@2:1", "")
	checkPlaces(t, "a//b\nc", "n:a@1:1 |@1:5 n:c@2:1 |@2:2", "")
	checkPlaces(t, "1//2\n0x1//2", "1=1@1:1 |@1:5 0x1=1@2:1 |@2:7", "")
	checkPlaces(t, " // a comment alone\n\t//\r\n// one more", "|@1:20 |@2:5 |@3:12", "")
	checkPlaces(t, "///", "|@1:4", "")
	checkPlaces(t, "////\n////", "|@1:5 |@2:5", "")
	checkPlaces(t, "#//#\n#", "#@1:1 |@1:5 #@2:1 |@2:2", "")
	// Nothing in it is wrong.
	checkPlaces(t, "a // % 1x \x00 \" \xff "+strings.Repeat("n", 40)+" 1099511627777 / \t\r\nb", "n:a@1:1 |@1:76 n:b@2:1 |@2:2", "")
}

func TestSlashes(t *testing.T) {
	checkPlaces(t, "/", "|@1:2", "form@1:1")
	checkPlaces(t, "a/b", "n:a@1:1 n:b@1:3 |@1:4", "form@1:2")
	checkPlaces(t, "/a", "n:a@1:2 |@1:3", "form@1:1")
	checkPlaces(t, "/ /", "|@1:4", "form@1:1 form@1:3")
	checkPlaces(t, "/\n/", "|@1:2 |@2:2", "form@1:1 form@2:1")
	checkPlaces(t, "a/\n/b\n/", "n:a@1:1 |@1:3 n:b@2:2 |@2:3 |@3:2", "form@1:2 form@2:1 form@3:1")
	checkPlaces(t, "/*a*/", "*@1:2 n:a@1:3 *@1:4 |@1:6", "form@1:1 form@1:5")
	checkPlaces(t, "/\r/", "|@1:4", "form@1:1 form@1:3")
}

// P14.1: signs

func TestSigns(t *testing.T) {
	const signs = "{};:(),=+-*!#"
	for i := range len(signs) {
		s := signs[i : i+1]
		checkPlaces(t, s, s+"@1:1 |@1:2", "")
		checkPlaces(t, "a"+s+"1", "n:a@1:1 "+s+"@1:2 1=1@1:3 |@1:4", "")
		checkPlaces(t, "\n "+s+"//", "|@1:1 "+s+"@2:2 |@2:5", "")
	}
	check(t, "{};:(),=+-*!#", "{ } ; : ( ) , = + - * ! # |", "")
	check(t, "#!*-+=,():;}{", "# ! * - + = , ( ) : ; } { |", "")
	// But for # two of them are two.
	check(t, "==++--**!!::;;,,(())", "= = + + - - * * ! ! : : ; ; , , ( ( ) ) |", "")
	check(t, "!=+=-=*=:={{}}", "! = + = - = * = : = { { } } |", "")
}

func TestHashes(t *testing.T) {
	checkPlaces(t, "#", "#@1:1 |@1:2", "")
	checkPlaces(t, "##", "##@1:1 |@1:3", "")
	checkPlaces(t, "###", "##@1:1 #@1:3 |@1:4", "")
	checkPlaces(t, "####", "##@1:1 ##@1:3 |@1:5", "")
	checkPlaces(t, "#####", "##@1:1 ##@1:3 #@1:5 |@1:6", "")
	checkPlaces(t, "# ## # #\t#\r#", "#@1:1 ##@1:3 #@1:6 #@1:8 #@1:10 #@1:12 |@1:13", "")
	checkPlaces(t, "#\n#", "#@1:1 |@1:2 #@2:1 |@2:2", "")
	checkPlaces(t, "##\n##", "##@1:1 |@1:3 ##@2:1 |@2:3", "")
	checkPlaces(t, "###\n###\n#", "##@1:1 #@1:3 |@1:4 ##@2:1 #@2:3 |@2:4 #@3:1 |@3:2", "")
	checkPlaces(t, "a#b##c###1", "n:a@1:1 #@1:2 n:b@1:3 ##@1:4 n:c@1:6 ##@1:7 #@1:9 1=1@1:10 |@1:11", "")
	checkPlaces(t, "#%#", "#@1:1 #@1:3 |@1:4", "form@1:2")
}

// P14.1: names

func TestNames(t *testing.T) {
	for _, s := range []string{"a", "z", "A", "Z", "_", ".", "r31", "p0.new", "memw", "L_1", ".equ", "..", "._", "_.", "__", "_1", ".1", ".0x1F", "a.b.c", "..a.1_", "x0123456789", "e9", "aZ_.09"} {
		checkPlaces(t, s, fmt.Sprintf("n:%s@1:1 |@1:%d", s, len(s)+1), "")
		checkPlaces(t, "\n\t"+s+" "+s, fmt.Sprintf("|@1:1 n:%s@2:2 n:%s@2:%d |@2:%d", s, s, len(s)+3, 2*len(s)+3), "")
	}
	check(t, "a a", "n:a n:a |", "")
	check(t, "aA Aa", "n:aA n:Aa |", "")
	check(t, "a-b", "n:a - n:b |", "")
}

func TestBytesOfNames(t *testing.T) {
	const begin = "abcdefghijklmnopqrstuvwxyzABCDEFGHIJKLMNOPQRSTUVWXYZ_."
	const within = begin + "0123456789"
	for c := range 256 {
		s := string([]byte{byte(c)})
		if strings.Contains(begin, s) {
			check(t, s, "n:"+s+" |", "")
		}
		if strings.Contains(within, s) {
			check(t, "a"+s+"b", "n:a"+s+"b |", "")
		} else if l, _ := lex.Split("a" + s + "b"); len(l) == 0 || toldOf(l[0]) != "n:a" {
			t.Errorf("%q: %s", "a"+s+"b", told(l))
		}
	}
}

func TestLongNames(t *testing.T) {
	for _, begin := range []string{"a", "Z", "_", "."} {
		for _, c := range []string{"a", "0", "_", "."} {
			longest := begin + strings.Repeat(c, 31)
			checkPlaces(t, longest, "n:"+longest+"@1:1 |@1:33", "")
			checkPlaces(t, longest+c, "|@1:34", "long@1:1")
			checkPlaces(t, "b "+longest+c+" d\n "+longest+c+longest, "n:b@1:1 n:d@1:37 |@1:38 |@2:67", "long@1:3 long@2:2")
		}
	}
	check(t, strings.Repeat("a", 32)+"-"+strings.Repeat("b", 31), "n:"+strings.Repeat("a", 32)+" - n:"+strings.Repeat("b", 31)+" |", "")
	check(t, strings.Repeat("a", 33)+"-"+strings.Repeat("b", 64)+"+1", "- + 1=1 |", "long@1:1 long@1:35")
}

// P14.1: numbers

func TestNumbers(t *testing.T) {
	check(t, "0 1 9 10 12 007 00 1234567890", "0=0 1=1 9=9 10=10 12=12 007=7 00=0 1234567890=1234567890 |", "")
	check(t, "0x0 0x1F 0X1f 0xABCDEF 0XabcdeF 0x0123456789", "0x0=0 0x1F=31 0X1f=31 0xABCDEF=11259375 0XabcdeF=11259375 0x0123456789=4886718345 |", "")
	check(t, "0x10 010 0x010 16", "0x10=16 010=10 0x010=16 16=16 |", "")
	for i := range 16 {
		for _, s := range []string{fmt.Sprintf("0x%x", i), fmt.Sprintf("0X%x", i), fmt.Sprintf("0x%X", i), fmt.Sprintf("0X%X", i)} {
			check(t, s+" "+s+"0", fmt.Sprintf("%s=%d %s0=%d |", s, i, s, 16*i), "")
		}
	}
	checkPlaces(t, "1 0x2\n 33", "1=1@1:1 0x2=2@1:3 |@1:6 33=33@2:2 |@2:4", "")
	check(t, "-1", "- 1=1 |", "")
}

func TestGreatNumbers(t *testing.T) {
	zeros := strings.Repeat("0", 5000)
	for _, s := range []string{"1099511627776", "001099511627776", zeros + "1099511627776", "0x10000000000", "0X0010000000000", "0x" + zeros + "10000000000"} {
		check(t, s, s+"=1099511627776 |", "")
	}
	for _, s := range []string{"1099511627775", "0xFFffFFffFF", "0xffffffffff"} {
		check(t, s, s+"=1099511627775 |", "")
	}
	for _, s := range []string{
		"1099511627777", "001099511627777", zeros + "1099511627777", "1099511627780", "2000000000000", "10995116277760",
		"0x10000000001", "0X0010000000001", "0x" + zeros + "10000000001", "0x20000000000", "0x100000000000",
		// The numbers about 2^63, 2^64 and 2^65, and many digits
		"9223372036854775807", "9223372036854775808", "18446744073709551615", "18446744073709551616", "18446744073709551617", "36893488147419103233",
		"0x7fffffffffffffff", "0x8000000000000000", "0xffffffffffffffff", "0x10000000000000000", "0x10000000000000001", "0x20000000000000001",
		strings.Repeat("9", 5000), "1" + zeros, "0x" + strings.Repeat("f", 5000), "0x1" + zeros,
	} {
		checkPlaces(t, s, fmt.Sprintf("|@1:%d", len(s)+1), "range@1:1")
		checkPlaces(t, "a\n "+s+" b", fmt.Sprintf("n:a@1:1 |@1:2 n:b@2:%d |@2:%d", len(s)+3, len(s)+4), "range@2:2")
	}
}

func TestWordsThatAreNoNumbers(t *testing.T) {
	for _, s := range []string{
		"0x", "0X", "00x1", "1x", "1x2", "0xg", "0xG", "0x1g", "0xx1", "0x0x1", "0b1", "0o7", "1e5", "12_", "1_2", "0x_", "0x1_", "0_x1", "0_1", "1a", "9Z", "0xfz", "12h", "1F",
		// Form comes ahead of range, wherever it stands.
		"1099511627777a", "1099511627777_", "0x10000000001g", strings.Repeat("9", 5000) + "z", "0x" + strings.Repeat("f", 5000) + "_", "99999999999999a99999999999999", "0xg" + strings.Repeat("f", 5000),
		// A number may be longer than a name.
		"1" + strings.Repeat("a", 40),
	} {
		checkPlaces(t, s, fmt.Sprintf("|@1:%d", len(s)+1), "form@1:1")
		checkPlaces(t, "\n a-"+s+"+b", fmt.Sprintf("|@1:1 n:a@2:2 -@2:3 +@2:%d n:b@2:%d |@2:%d", len(s)+4, len(s)+5, len(s)+6), "form@2:4")
	}
}

func TestNumbersAheadOfDots(t *testing.T) {
	checkPlaces(t, "1.5", "1=1@1:1 n:.5@1:2 |@1:4", "")
	checkPlaces(t, "1.", "1=1@1:1 n:.@1:2 |@1:3", "")
	checkPlaces(t, "0x1F.b", "0x1F=31@1:1 n:.b@1:5 |@1:7", "")
	checkPlaces(t, "0x.1", "n:.1@1:3 |@1:5", "form@1:1")
	checkPlaces(t, "1x.b", "n:.b@1:3 |@1:5", "form@1:1")
	checkPlaces(t, "1_.b", "n:.b@1:3 |@1:5", "form@1:1")
	checkPlaces(t, "1099511627777.b", "n:.b@1:14 |@1:16", "range@1:1")
	checkPlaces(t, "1."+strings.Repeat("b", 32), "1=1@1:1 |@1:35", "long@1:2")
}

func TestNumbersAheadOfOthers(t *testing.T) {
	check(t, "1+2", "1=1 + 2=2 |", "")
	check(t, "0x1:", "0x1=1 : |", "")
	check(t, "1#2##3", "1=1 # 2=2 ## 3=3 |", "")
	check(t, "1%2", "1=1 2=2 |", "form@1:2")
	check(t, "1\xc3\xa92", "1=1 2=2 |", "form@1:2 form@1:3")
	check(t, "1/2", "1=1 2=2 |", "form@1:2")
}

// P14.1: what is wrong

func TestWrongBytes(t *testing.T) {
	const right = " \t\r\n{};:(),=+-*!#_.abcdefghijklmnopqrstuvwxyzABCDEFGHIJKLMNOPQRSTUVWXYZ0123456789"
	wrong := 0
	for c := range 256 {
		s := string([]byte{byte(c)})
		if strings.Contains(right, s) {
			continue
		}
		wrong++
		checkPlaces(t, s, "|@1:2", "form@1:1")
		checkPlaces(t, "a\nb"+s+"c", "n:a@1:1 |@1:2 n:b@2:1 n:c@2:3 |@2:4", "form@2:2")
		checkPlaces(t, "1"+s+"\n#"+s+"#", "1=1@1:1 |@1:3 #@2:1 #@2:3 |@2:4", "form@1:2 form@2:2")
	}
	if wrong != 256-4-13-2-62 {
		t.Errorf("%d bytes", wrong)
	}
}

func TestQuotesAndLetters(t *testing.T) {
	checkPlaces(t, "\"a\"", "n:a@1:2 |@1:4", "form@1:1 form@1:3")
	checkPlaces(t, "'a' `b`", "n:a@1:2 n:b@1:6 |@1:8", "form@1:1 form@1:3 form@1:5 form@1:7")
	checkPlaces(t, "\"a // b\"\n\"", "n:a@1:2 |@1:9 |@2:2", "form@1:1 form@2:1")
	// A letter or a digit of more than one byte is that many wrong ones.
	checkPlaces(t, "a\u00e4b", "n:a@1:1 n:b@1:4 |@1:5", "form@1:2 form@1:3")
	checkPlaces(t, "\u0661 \U0001d7cf", "|@1:8", "form@1:1 form@1:2 form@1:4 form@1:5 form@1:6 form@1:7")
	checkPlaces(t, "\ufeffa", "n:a@1:4 |@1:5", "form@1:1 form@1:2 form@1:3")
	checkPlaces(t, "a\x00b", "n:a@1:1 n:b@1:3 |@1:4", "form@1:2")
}

func TestTheDiagsAreInTheTextsOrder(t *testing.T) {
	long := strings.Repeat("n", 33)
	check(t, "1x "+long+" 1099511627777 %", "|", "form@1:1 long@1:4 range@1:38 form@1:52")
	check(t, "% 1099511627777\n"+long+"/1x", "| |", "form@1:1 range@1:3 long@2:1 form@2:34 form@2:35")
}

func TestManyDiags(t *testing.T) {
	for _, n := range []int{1, 99, 100, 101, 150, 5000} {
		var wrong []string
		for i := range min(n, 100) {
			wrong = append(wrong, fmt.Sprintf("form@1:%d", i+1))
		}
		behind := " a 1x " + strings.Repeat("n", 33) + " 1099511627777 #\n/b"
		var also []string
		for _, d := range []string{fmt.Sprintf("form@1:%d", n+4), fmt.Sprintf("long@1:%d", n+7), fmt.Sprintf("range@1:%d", n+41), "form@2:1"} {
			if len(wrong)+len(also) < 100 {
				also = append(also, d)
			}
		}
		check(t, strings.Repeat("%", n), "|", strings.Join(wrong, " "))
		check(t, strings.Repeat("%", n)+behind, "n:a # | n:b |", strings.Join(append(wrong, also...), " "))
	}
}

func TestManyDiagsOfEachKind(t *testing.T) {
	for word, name := range map[string]string{"1x": "form", "1099511627777": "range", strings.Repeat("n", 33): "long", "/": "form"} {
		var wrong, ends []string
		for i := range 100 {
			wrong = append(wrong, fmt.Sprintf("%s@%d:3", name, i+1))
		}
		for range 151 {
			ends = append(ends, "n:a |")
		}
		check(t, strings.Repeat("a "+word+"\n", 150)+"a", strings.Join(ends, " "), strings.Join(wrong, " "))
	}
}

// P14.1: long texts

func TestTheLongestText(t *testing.T) {
	const most = api.MaxText
	behind := fmt.Sprintf("@1:%d", most+1)
	checkPlaces(t, many(" ", most, "a"), fmt.Sprintf("n:a@1:%d |", most)+behind, "")
	checkPlaces(t, many("/", most, "a"), "|"+behind, "")
	checkPlaces(t, many("/", most, "\na"), fmt.Sprintf("|@1:%d n:a@2:1 |@2:2", most-1), "")
	checkPlaces(t, many("n", most, ""), "|"+behind, "long@1:1")
	checkPlaces(t, many("9", most, ""), "|"+behind, "range@1:1")
	checkPlaces(t, many("9", most, "z"), "|"+behind, "form@1:1")
	if l, diags := lex.Split(many("0", most, "12")); len(l) != 2 || l[0].V != 12 || len(l[0].Text) != most || len(diags) != 0 {
		t.Errorf("%d tokens, %v", len(l), diags)
	}
	if l, diags := lex.Split(many("%", most, "")); len(l) != 1 || len(diags) != 100 || diags[99] != (api.Diag{Line: 1, Col: 100, Code: api.ErrForm}) {
		t.Errorf("%d tokens, %v", len(l), diags)
	}
}

func TestLongerTexts(t *testing.T) {
	const most = api.MaxText
	for _, s := range []string{many(" ", most+1, ""), many("\n", most+1, ""), many("%", most+1, ""), many("+", most+1, "a"), many("/", most+1, ""), many("9", most+1, ""), many(" ", 2*most, "a")} {
		checkPlaces(t, s, "", "long@1:1")
	}
}

func TestManyTokens(t *testing.T) {
	const n = 1 << 18
	l, diags := lex.Split(strings.Repeat("a 1;\n", n))
	if len(l) != 4*n+1 || len(diags) != 0 {
		t.Fatalf("%d tokens, %v", len(l), diags)
	}
	for _, at := range []int{0, 1, n / 2, n - 1} {
		want := fmt.Sprintf("n:a@%d:1 1=1@%d:3 ;@%d:4 |@%d:5", at+1, at+1, at+1, at+1)
		if got := toldPlaces(l[4*at : 4*at+4]); got != want {
			t.Errorf("%s, not %s", got, want)
		}
	}
	if got, want := toldPlaces(l[4*n:]), fmt.Sprintf("|@%d:1", n+1); got != want {
		t.Errorf("%s, not %s", got, want)
	}
}

// Rules R3 and R4

func TestNewMemory(t *testing.T) {
	const text = "r1 = add(r2, ##0x1F) // x\n%1x a/"
	was, wrong := lex.Split(text)
	l, diags := slices.Clone(was), slices.Clone(wrong)
	clear(was[:cap(was)])
	clear(wrong[:cap(wrong)])
	again, wrongAgain := lex.Split(text)
	if !slices.Equal(again, l) || !slices.Equal(wrongAgain, diags) {
		t.Errorf("%s, and then %s", toldPlaces(l), toldPlaces(again))
	}
}

func TestTheTextIsNotKept(t *testing.T) {
	b := []byte("name.1 0x1F ## 12 +")
	l, _ := lex.Split(unsafe.String(&b[0], len(b)))
	if string(b) != "name.1 0x1F ## 12 +" {
		t.Errorf("%q", b)
	}
	clear(b)
	if got := told(l); got != "n:name.1 0x1F=31 ## 12=12 + |" {
		t.Errorf("%q", got)
	}
}
