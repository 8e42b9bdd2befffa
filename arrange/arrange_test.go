package arrange_test

import (
	"iter"
	"slices"
	"strings"
	"testing"

	"coxless/arrange"
)

func check(t *testing.T, all iter.Seq[[]string], want string) {
	t.Helper()
	var got []string
	for l := range all {
		got = append(got, strings.Join(l, ""))
	}
	slices.Sort(got)
	if told := strings.Join(got, " "); told != want {
		t.Errorf("%s, not %s", told, want)
	}
}

func letters(s string) []string {
	return strings.Split(s, "")
}

func TestOrders(t *testing.T) {
	check(t, arrange.Orders([]string(nil)), "")
	check(t, arrange.Orders(letters("a")), "a")
	check(t, arrange.Orders(letters("ab")), "ab ba")
	check(t, arrange.Orders(letters("abc")), "abc acb bac bca cab cba")
	check(t, arrange.Orders(letters("aab")), "aab aab aba aba baa baa")
}

func TestMultisets(t *testing.T) {
	check(t, arrange.Multisets(letters("abc"), 0), "")
	check(t, arrange.Multisets(letters("abc"), 1), "a b c")
	check(t, arrange.Multisets(letters("abc"), 2), "aa ab ac bb bc cc")
	check(t, arrange.Multisets(letters("ab"), 3), "aaa aab abb bbb")
}

func TestSequences(t *testing.T) {
	check(t, arrange.Sequences(letters("abc"), 0), "")
	check(t, arrange.Sequences(letters("abc"), 1), " a b c")
	check(t, arrange.Sequences(letters("ab"), 2), " a aa ab b ba bb")
	check(t, arrange.Sequences(letters("a"), 3), " a aa aaa")
}

// Each stands ahead of those that go on from it.
func TestTheOrderOfSequences(t *testing.T) {
	var got []string
	for l := range arrange.Sequences(letters("ba"), 2) {
		got = append(got, strings.Join(l, ""))
	}
	if want := []string{"", "b", "bb", "ba", "a", "ab", "aa"}; !slices.Equal(got, want) {
		t.Errorf("%q, not %q", got, want)
	}
}

func TestHowMany(t *testing.T) {
	count := func(all iter.Seq[[]string]) int {
		n := 0
		for range all {
			n++
		}
		return n
	}
	l := letters("abcde")
	if got := [...]int{count(arrange.Orders(l[:0])), count(arrange.Orders(l[:4])), count(arrange.Orders(l))}; got != [...]int{1, 24, 120} {
		t.Errorf("Orders: %v", got)
	}
	if got := [...]int{count(arrange.Multisets(l, 0)), count(arrange.Multisets(l[:0], 2)), count(arrange.Multisets(l, 4))}; got != [...]int{1, 0, 70} {
		t.Errorf("Multisets: %v", got)
	}
	if got := [...]int{count(arrange.Sequences(l, 0)), count(arrange.Sequences(l[:0], 2)), count(arrange.Sequences(l, 4))}; got != [...]int{1, 1, 781} {
		t.Errorf("Sequences: %v", got)
	}
}

// What is yielded may be changed, and one may stop.
func TestNewMemory(t *testing.T) {
	l := letters("abc")
	for _, x := range []struct {
		all iter.Seq[[]string]
		n   int
	}{{arrange.Orders(l), 6}, {arrange.Multisets(l, 2), 6}, {arrange.Sequences(l, 2), 13}} {
		var was [][]string
		for got := range x.all {
			was = append(was, slices.Clone(got))
			clear(got[:cap(got)])
			if len(was) == 5 {
				break
			}
		}
		k := 0
		for got := range x.all {
			if k < len(was) && !slices.Equal(got, was[k]) {
				t.Errorf("%v, and then %v", was[k], got)
			}
			k++
		}
		if k != x.n || !slices.Equal(l, letters("abc")) {
			t.Errorf("%d of %v", k, l)
		}
	}
}
