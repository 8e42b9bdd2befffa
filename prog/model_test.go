package prog_test

import (
	"regexp"
	"slices"
	"strings"
	"testing"

	"coxless/api"
	"coxless/arrange"
	"coxless/lex"
	"coxless/parse"
	"coxless/prog"
)

// The model takes words of a small choice, of which all but | (an end of a line) and % (which lex leaves out) are tokens. What a line may be is a regular expression of words, each with a blank behind it, after the chapter's words.

// tagged are the tags of a packet, in any row and each at most once.
func tagged() string {
	var rows []string
	for tags := range arrange.Orders([]string{"endloop0", "endloop1", "raw"}) {
		rows = append(rows, "(?:: "+tags[0]+" (?:: "+tags[1]+" (?:: "+tags[2]+" )?)?)?")
	}
	return "(?:" + strings.Join(rows, "|") + ")"
}

// rightLine is what a line may be, with its end.
func rightLine() *regexp.Regexp {
	const (
		free   = `(?:L|M|foo|raw|endloop0|endloop1) `
		factor = `(?:- )*(?:[0-9]+|[A-Za-z_.][A-Za-z0-9_.]*) `
		sum    = factor + `(?:[-+*] ` + factor + `)*`
		inst   = `(?:nop |jump ` + sum + `|r1 = (?:r1 |# ` + sum + `))`
		sep    = `(?:; |\| )`
		group  = `\{ ` + sep + `*` + inst + `(?:` + sep + `+` + inst + `)*` + sep + `*\} `
		one    = `\.(?:org|align|space) ` + sum
		more   = `\.(?:word|byte) ` + sum + `(?:, ` + sum + `)*`
		define = `\.equ ` + free + `, ` + sum
	)
	packet := `(?:` + inst + `|` + group + `)` + tagged()
	return regexp.MustCompile(`^(?:` + free + `: )*(?:` + one + `|` + more + `|` + define + `|\.section (?:code|data) |` + packet + `)?\| $`)
}

var isLine = rightLine().MatchString

// endings are words of which some make a line of whatever words a line can continue.
var endings = []string{"| ", ": | ", "1 | ", ", 1 | ", "L , 1 | ", "code | ", "raw | ", "endloop0 | ", "endloop1 | ", "r1 | ", "= r1 | ", "} | ", "nop } | ", "1 } | ", "r1 } | ", "= r1 } | "}

// known are the words that the model has been asked for before: whether a line may begin with them.
var known = map[string]bool{}

func beginsLine(text string) bool {
	begins, asked := known[text]
	if !asked {
		begins = slices.ContainsFunc(endings, func(ending string) bool { return isLine(text + ending) })
		known[text] = begins
	}
	return begins
}

// placed is a word and its position.
type placed struct {
	text     string
	row, col int
}

// lay writes words with a blank behind each, and tells where they are, the last one being the end of the text.
func lay(words []string) (text string, l []placed) {
	row, col := 1, 1
	for _, word := range words {
		l = append(l, placed{word, row, col})
		if word == "|" {
			text += "\n"
			row, col = row+1, 1
			continue
		}
		text += word + " "
		col += len(word) + 1
	}
	return text, append(l, placed{"|", row, col})
}

func joined(l []placed) string {
	var words []string
	for _, x := range l {
		words = append(words, x.text)
	}
	return strings.Join(words, " ")
}

// split are the parts between these words, without empty ones.
func split(l []placed, between ...string) [][]placed {
	var parts [][]placed
	from := 0
	for i, x := range append(slices.Clone(l), placed{text: between[0]}) {
		if slices.Contains(between, x.text) {
			if i > from {
				parts = append(parts, l[from:i])
			}
			from = i + 1
		}
	}
	return parts
}

// modelDirective tells the item of a directive.
func modelDirective(l []placed) api.Item {
	row, col := l[0].row, l[0].col
	switch l[0].text {
	case ".equ":
		return equ(row, col, l[1].text, joined(l[3:]))
	case ".section":
		return section(row, col, l[1].text)
	}
	kind := map[string]uint8{".org": 3, ".align": 4, ".word": 5, ".byte": 6, ".space": 7}[l[0].text]
	var texts []string
	for _, e := range split(l[1:], ",") {
		texts = append(texts, joined(e))
	}
	return directive(kind, row, col, texts...)
}

// modelPacket tells the item of a packet.
func modelPacket(l []placed) api.Item {
	row, col := l[0].row, l[0].col
	tags := ""
	for len(l) > 2 && l[len(l)-2].text == ":" {
		tags += l[len(l)-1].text
		l = l[:len(l)-2]
	}
	if l[0].text == "{" {
		l = l[1 : len(l)-1]
	}
	var lines []api.Line
	for _, part := range split(l, ";", "|") {
		lines = append(lines, line(part[0].row, part[0].col, joined(part)))
	}
	return packet(row, col, tags, lines...)
}

// modelItems tells the items of a line that is right, without its end.
func modelItems(l []placed) []api.Item {
	var items []api.Item
	for len(l) > 1 && l[1].text == ":" && !parse.Reserved(l[0].text) {
		items = append(items, label(l[0].row, l[0].col, l[0].text))
		l = l[2:]
	}
	switch {
	case len(l) == 0:
		return items
	case l[0].text[0] == '.':
		return append(items, modelDirective(l))
	}
	return append(items, modelPacket(l))
}

// modelLine tells how many words a line and its end have, and whether it is right, or the index of the word that is wrong.
func modelLine(l []placed) (n int, ok bool, wrong int) {
	text := ""
	for i, x := range l {
		text += x.text + " "
		if x.text == "|" && isLine(text) {
			return i + 1, true, 0
		}
		if i == len(l)-1 || !beginsLine(text) {
			wrong = i
			break
		}
	}
	end := slices.IndexFunc(l[wrong:], func(x placed) bool { return x.text == "|" })
	return wrong + end + 1, false, wrong
}

// model tells the items, and what is wrong.
func model(l []placed) (items []api.Item, diags []api.Diag) {
	var tokens []placed
	for _, x := range l {
		if x.text == "%" {
			diags = append(diags, form(x.row, x.col))
		} else {
			tokens = append(tokens, x)
		}
	}
	for len(tokens) > 0 {
		n, ok, wrong := modelLine(tokens)
		if ok {
			items = append(items, modelItems(tokens[:n-1])...)
		} else {
			diags = append(diags, form(tokens[wrong].row, tokens[wrong].col))
		}
		tokens = tokens[n:]
	}
	slices.SortFunc(diags, func(a, b api.Diag) int {
		if isBehind(a.Line, a.Col, b.Line, b.Col) {
			return 1
		}
		return -1
	})
	return items, diags
}

// checkModel asks for what the model tells of these words.
func checkModel(t *testing.T, words []string) {
	t.Helper()
	text, l := lay(words)
	items, diags := model(l)
	if len(diags) > 0 {
		checkWrong(t, text, diags...)
	} else {
		check(t, text, items...)
	}
}

// checkSequences asks for all sequences of up to n of these words, with others ahead of them and behind them.
func checkSequences(t *testing.T, n int, ahead, words, behind string) {
	t.Helper()
	for l := range arrange.Sequences(strings.Fields(words), n) {
		checkModel(t, slices.Concat(strings.Fields(ahead), l, strings.Fields(behind)))
	}
}

const everything = "L raw endloop0 : nop jump r1 = # { } ; | .org .word .equ .section .foo code 1 , - %"

func TestAllShortSequences(t *testing.T) {
	checkSequences(t, 3, "", everything, "")
	checkSequences(t, 4, "", "L : nop { } ; | raw .word .equ , 1 % code .section", "")
}

func TestAllSequencesOfLabels(t *testing.T) {
	checkSequences(t, 6, "", "L : nop | raw .org", "")
	checkSequences(t, 5, "L :", "L : nop | raw 1", "")
}

func TestAllSequencesOfDirectives(t *testing.T) {
	for _, name := range strings.Fields(".org .align .space .word .byte .section .equ .foo .") {
		checkSequences(t, 4, name, "1 L , - + | : code nop %", "")
		checkSequences(t, 4, "L : "+name+" L", "1 L , - | nop } .org", "")
	}
	checkSequences(t, 5, ".equ", "L , 1 nop | - .x", "")
	checkSequences(t, 5, ".word 1 ,", "L , 1 * | - ;", "| nop")
}

func TestAllSequencesOfPackets(t *testing.T) {
	checkSequences(t, 6, "", "{ } ; | nop :", "")
	checkSequences(t, 6, "{", "{ } ; | nop raw", "")
	checkSequences(t, 6, "{ nop", "} ; | nop : raw", "")
	checkSequences(t, 4, "{ nop ;", "} ; | nop : L jump r1 = # %", "| }")
	checkSequences(t, 5, "L : { jump", "L + 1 ; } | nop", "")
	checkSequences(t, 4, "nop | {", "} ; | nop { .org L : %", "} | nop")
}

func TestAllSequencesOfTags(t *testing.T) {
	for _, ahead := range []string{"nop", "{ nop }", "L : nop :", "{ | nop ; | } :", "nop : raw :", "{ nop } : endloop0 : endloop1"} {
		checkSequences(t, 5, ahead, ": raw endloop0 endloop1 | nop", "")
	}
	checkSequences(t, 3, "nop :", everything, "")
	checkSequences(t, 3, "{ nop } :", everything, "| nop")
}

func TestAllSequencesBehindABeginning(t *testing.T) {
	for _, ahead := range []string{"L :", "nop", "{", "{ nop", "{ nop ;", "{ nop |", "{ nop }", "nop nop", "{ nop nop", "nop |", ".org 1", ".word 1 ,", ".equ L", ".section", "jump", "r1 =", "{ r1 = #", "L", "%", "nop : raw : endloop0 :"} {
		checkSequences(t, 2, ahead, everything, "")
		checkSequences(t, 2, ahead, everything, "| nop } | L nop")
	}
}

// rightWords are programs.
var rightWords = []string{
	"", "|", "L :", "L : M : nop", "nop", "jump L", "jump L + 4", "r1 = r1", "r1 = # - 5", "nop : raw", "L : nop : raw : endloop0 : endloop1",
	"{ nop }", "{ nop ; nop }", "{ | nop | ; | jump L | }", "L : { r1 = r1 ; r1 = # 5 ; } : endloop1 : raw", "{ nop | nop } : endloop0 | nop", "{ ; ; nop ; ; }",
	".org 1", "L : .align 4 * L", ".space - 1", ".word 1", ".word 1 , 2 , L - 1", "M : .byte 1 , - 1", ".equ L , 4", ".equ raw , L + 1", ".section code", "L : .section data",
	"L : | nop | .org L | { nop | nop } : raw | .word 1 , 2", "| | nop | | raw : | |",
}

func TestRightWords(t *testing.T) {
	for _, text := range rightWords {
		text, l := lay(strings.Fields(text))
		items, diags := model(l)
		if len(diags) > 0 {
			t.Errorf("%q: the model tells %v", text, diags)
		}
		check(t, text, items...)
	}
}

// Each word at each place of a program, and the first words of it alone.
func TestEachWordAtEachPlace(t *testing.T) {
	words := append(strings.Fields(everything), "M", "endloop1", ".align", ".space", ".byte", "data", ".", "0", "+", "*")
	for _, text := range rightWords {
		l := strings.Fields(text)
		for at := range len(l) + 1 {
			checkModel(t, l[:at])
			if at < len(l) {
				checkModel(t, slices.Delete(slices.Clone(l), at, at+1))
			}
			for _, word := range words {
				inserted := slices.Insert(slices.Clone(l), at, word)
				checkModel(t, inserted)
				if at < len(l) {
					checkModel(t, slices.Delete(inserted, at+1, at+2))
				}
			}
		}
	}
}

// Each program goes on as any other does, from any place on.
func TestEachTwoPrograms(t *testing.T) {
	for _, a := range rightWords {
		for _, b := range rightWords {
			l, m := strings.Fields(a), strings.Fields(b)
			for at := range l {
				for from := range m {
					checkModel(t, slices.Concat(l[:at+1], m[from:]))
				}
			}
		}
	}
}

// P17.2: comments, blanks and empty lines

// unplaced are items without their positions.
func unplaced(items []api.Item) []api.Item {
	items = slices.Clone(items)
	for i := range items {
		items[i].Line, items[i].Col = 0, 0
		items[i].Lines = slices.Clone(items[i].Lines)
		for j := range items[i].Lines {
			items[i].Lines[j].Line, items[i].Lines[j].Col = 0, 0
		}
	}
	return items
}

// programs are some in which each kind of item stands.
func programs() []string {
	l := []string{
		"L:M:nop:raw", "{nop\nr1=#2;}:endloop0:endloop1\n.equ N,4\n.org N*8\n.align 4\n.word 1,2\n.byte -1\n.space 3\n.section data // x", "A:\n\nB:{;;memw(r1+#4)=r2.new;;\n;jump A}\nloop0(A,#(3))\n",
		"if(!p1.new)r1=add(r2,r3):raw\n.word A,B,-(A-B)*2\n.section code\n\n",
	}
	for _, words := range rightWords {
		text, _ := lay(strings.Fields(words))
		l = append(l, text)
	}
	return l
}

// respaced writes the tokens of a text out with these between each two of them, and at the beginning and the end of each line.
func respaced(text, blanks, end string) string {
	tokens, _ := lex.Split(text)
	out := blanks
	for i, k := range tokens {
		switch {
		case k.Kind != lex.KEnd:
			out += k.Text + blanks
		case i == len(tokens)-1:
			out += strings.TrimSuffix(end, "\n")
		default:
			out += end + blanks
		}
	}
	return out
}

func TestOnlyPositionsChange(t *testing.T) {
	for _, text := range programs() {
		want, diags := prog.Parse(text)
		if len(diags) > 0 {
			t.Fatalf("%q: %v", text, diags)
		}
		for _, blanks := range []string{" ", "\t", "\r", " \t\r  "} {
			for _, end := range []string{"\n", "\r\n", "//\n", "// nop } { % //\n", "\n\n", "\n \n\t\n", "\n// :raw\n//\n"} {
				other := respaced(text, blanks, end)
				items, diags := prog.Parse(other)
				if len(diags) > 0 || told(unplaced(items)) != told(unplaced(want)) {
					t.Errorf("%q: %s, %v, not %s", other, told(items), diags, told(want))
				}
				checkKinds(t, other, items)
			}
		}
	}
}

// P17.2: two texts

// movedItems are items of a text that has so many lines ahead of it.
func movedItems(items []api.Item, lines int) []api.Item {
	items = slices.Clone(items)
	for i := range items {
		items[i].Line += lines
		items[i].Lines = slices.Clone(items[i].Lines)
		for j := range items[i].Lines {
			items[i].Lines[j].Line += lines
		}
	}
	return items
}

func movedDiags(diags []api.Diag, lines int) []api.Diag {
	diags = slices.Clone(diags)
	for i := range diags {
		diags[i].Line += lines
	}
	return diags
}

func TestTwoTexts(t *testing.T) {
	wrong := []string{"nop nop", "foo", "{", "{ nop", "}", "{ nop\n\n", "{ }\n}", ":raw", "; nop", ", 2", "+ 1", "%", "\n%\nnop nop\n%", ".org", ".foo\n{\nL:\n}", "nop : raw : raw", "nop }", "1", strings.Repeat("foo\n", 120), strings.Repeat("%", 120), strings.Repeat(" ", 100) + "="}
	for _, a := range programs() {
		first, _ := prog.Parse(a)
		n := 1 + strings.Count(a, "\n")
		for _, b := range append(programs(), wrong...) {
			second, diags := prog.Parse(b)
			if len(diags) > 0 {
				checkWrong(t, a+"\n"+b, movedDiags(diags, n)...)
			} else {
				check(t, a+"\n"+b, slices.Concat(first, movedItems(second, n))...)
			}
		}
	}
}
