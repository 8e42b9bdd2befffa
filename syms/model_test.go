package syms_test

import (
	"fmt"
	"slices"
	"strings"
	"testing"

	"coxless/api"
	"coxless/arrange"
	"coxless/expr"
	"coxless/syms"
)

// model tells values by the chapter's words, each one anew and by calls within calls; expr is asked for what an expression makes of the values of its names.
type model struct {
	items     []api.Item
	hasPlaces bool
	places    []int64
}

// first is the index of the first item that defines a name, or -1.
func (m model) first(name string) int {
	return slices.IndexFunc(m.items, func(item api.Item) bool {
		return item.Name == name && (item.Kind == api.ILabel || item.Kind == api.IEqu)
	})
}

// value is that of an expression which is needed by the .equ with these indexes.
func (m model) value(e []api.Term, needing []int) (int64, api.Errno) {
	return expr.Eval(e, func(name string) (int64, api.Errno) {
		i := m.first(name)
		switch {
		case i < 0:
			return 0, api.ErrNone
		case m.items[i].Kind == api.ILabel && !m.hasPlaces:
			return 0, api.ErrArg
		case m.items[i].Kind == api.ILabel && i < len(m.places):
			return m.places[i], api.OK
		case m.items[i].Kind == api.ILabel:
			return 0, api.OK
		case slices.Contains(needing, i):
			return 0, api.ErrLoop
		case len(m.items[i].Exprs) == 0:
			return 0, api.ErrArg
		}
		return m.value(m.items[i].Exprs[0], append(slices.Clone(needing), i))
	})
}

// diags are those of each item for which there is another one ahead of it.
func (m model) diags() []api.Diag {
	var l []api.Diag
	for i, item := range m.items {
		if (item.Kind == api.ILabel || item.Kind == api.IEqu) && m.first(item.Name) < i {
			l = append(l, api.Diag{Line: item.Line, Col: item.Col, Code: api.ErrTwice})
		}
	}
	return l
}

func toldItems(items []api.Item) string {
	var out []string
	for _, item := range items {
		out = append(out, fmt.Sprintf("%d %s %v", item.Kind, item.Name, item.Exprs))
	}
	return strings.Join(out, "; ")
}

// somePlaces are those that items are given.
func somePlaces() [][]int64 {
	return [][]int64{nil, {3}, {1, 2, 3, 4, 5, 6}, {most, -most, most + 1, -1, 0, 1 << 50}}
}

// checkScopes asks new scopes of a table for these texts, one after the other, and holds the answers against the model's.
func (m model) checkScopes(t *testing.T, tab *syms.Table, orders [][]string) {
	t.Helper()
	exprs, wants := map[string][]api.Term{}, map[string]string{}
	for _, text := range orders[0] {
		exprs[text] = terms(text)
		wants[text] = answer(m.value(exprs[text], nil))
	}
	for _, order := range orders {
		s := tab.Const()
		if m.hasPlaces {
			s = tab.At(m.places)
		}
		for _, text := range order {
			if got := value(s, exprs[text]); got != wants[text] {
				t.Errorf("%s; %v: %s of %v is %s, not %s", toldItems(m.items), m.places, text, order, got, wants[text])
			}
		}
	}
}

// checkItems asks for all that there is of items, in each of these orders.
func checkItems(t *testing.T, items []api.Item, orders [][]string) {
	t.Helper()
	m := model{items: items}
	tab, diags := syms.New(items)
	if want := m.diags(); !slices.Equal(diags, want) {
		t.Errorf("%s: %v, not %v", toldItems(items), diags, want)
	}
	m.checkScopes(t, tab, orders)
	for _, places := range somePlaces() {
		model{items: items, hasPlaces: true, places: places}.checkScopes(t, tab, orders)
	}
	checkConst(t, tab, orders[0])
}

// checkConst asks for what P18.3 says of a scope without places.
func checkConst(t *testing.T, tab *syms.Table, texts []string) {
	t.Helper()
	fixed := tab.Const()
	for _, places := range somePlaces() {
		at := tab.At(places)
		for _, text := range texts {
			v, err := fixed.Value(terms(text))
			if w, other := at.Value(terms(text)); err == api.OK && (w != v || other != api.OK) {
				t.Errorf("%s: %d without places, %s with %v", text, v, answer(w, other), places)
			}
		}
	}
}

func ordersOf(texts ...string) [][]string {
	return slices.Collect(arrange.Orders(texts))
}

// checkEqus asks for all programs of a label and .equ of these names, each with each of these texts.
func checkEqus(t *testing.T, names []string, texts []string) {
	t.Helper()
	exprs := map[string][]api.Term{}
	for _, text := range texts {
		exprs[text] = terms(text)
	}
	orders := ordersOf(names...)
	for l := range arrange.Sequences(texts, len(names)) {
		if len(l) < len(names) {
			continue
		}
		var items []api.Item
		for i, text := range l {
			items = append(items, equ(names[i], exprs[text]))
		}
		checkItems(t, append(items, label("l")), orders)
	}
}

func TestAllProgramsOfThreeNames(t *testing.T) {
	checkEqus(t, []string{"x", "y", "z"}, []string{"1", "l", "u", "x", "y", "z", "x+y", "y+x", "z-y", "y+z", "u+z", "x-u", "l*y", "1099511627776*2+x"})
}

func TestAllProgramsOfFourNames(t *testing.T) {
	checkEqus(t, []string{"a", "b", "c", "d"}, []string{"b", "c+d", "d-a", "u+b", "a+u", "2"})
}

// TestAllDefinitions takes all sequences of items that define few names, some of them twice.
func TestAllDefinitions(t *testing.T) {
	unused := []api.Term{name("a"), name("u"), both(api.TAdd, 0, 1), name("b")}
	choices := []api.Item{label("a"), label("b"), equ("a", terms("7")), equ("a", terms("b*2")), equ("b", terms("a-1")), equ("b", unused), equ("a"), equ("b", nil, terms("1")), {Kind: api.IWord, Name: "a", Exprs: [][]api.Term{terms("b")}}}
	orders := [][]string{{"a", "b", "a-b", "c", "b+c*a"}, {"b+c*a", "a-b", "b", "a", "c"}}
	for l := range arrange.Sequences(choices, 4) {
		checkItems(t, placed(l...), orders)
	}
}

// numbers yields small numbers that follow from each other, so that programs are made of them which are the same each time.
type numbers uint32

// below is the next number, which is less than n.
func (x *numbers) below(n int) int {
	*x = *x*1664525 + 1013904223
	return int(*x>>16) % n
}

// TestProgramsOfManyNames has .equ of up to ten names, each with the sum of a few: of those behind it, and now and then of any.
func TestProgramsOfManyNames(t *testing.T) {
	x := new(numbers)
	for range 3000 {
		n := 2 + x.below(9)
		rare := 1 + x.below(20)
		var items []api.Item
		var names []string
		for i := range n {
			var parts []string
			for range 1 + x.below(3) {
				part := i + 1 + x.below(n-i)
				if x.below(rare) == 0 {
					part = x.below(n + 1)
				}
				parts = append(parts, fmt.Sprintf("n%d", part))
			}
			names = append(names, fmt.Sprintf("n%d", i))
			items = append(items, equ(names[i], terms(strings.Join(parts, "+"))))
		}
		last := []api.Item{label(fmt.Sprintf("n%d", n)), equ(fmt.Sprintf("n%d", n), terms("3")), label("other")}[x.below(3)]
		backward := slices.Clone(names)
		slices.Reverse(backward)
		checkItems(t, append(items, last), [][]string{names, backward})
	}
}
