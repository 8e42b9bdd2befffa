package arrange_test

import (
	"iter"
	"slices"
	"strings"
	"testing"

	"coxless/arrange"
)

func check(t *testing.T, all iter.Seq[[]string], want string) {
	t.Helper()
	var got []string
	for l := range all {
		got = append(got, strings.Join(l, ""))
	}
	slices.Sort(got)
	if told := strings.Join(got, " "); told != want {
		t.Errorf("%s, not %s", told, want)
	}
}

func letters(s string) []string {
	return strings.Split(s, "")
}

func TestOrders(t *testing.T) {
	check(t, arrange.Orders([]string(nil)), "")
	check(t, arrange.Orders(letters("a")), "a")
	check(t, arrange.Orders(letters("ab")), "ab ba")
	check(t, arrange.Orders(letters("abc")), "abc acb bac bca cab cba")
	check(t, arrange.Orders(letters("aab")), "aab aab aba aba baa baa")
}

func TestMultisets(t *testing.T) {
	check(t, arrange.Multisets(letters("abc"), 0), "")
	check(t, arrange.Multisets(letters("abc"), 1), "a b c")
	check(t, arrange.Multisets(letters("abc"), 2), "aa ab ac bb bc cc")
	check(t, arrange.Multisets(letters("ab"), 3), "aaa aab abb bbb")
}

func TestHowMany(t *testing.T) {
	count := func(all iter.Seq[[]string]) int {
		n := 0
		for range all {
			n++
		}
		return n
	}
	l := letters("abcde")
	if got := [...]int{count(arrange.Orders(l[:0])), count(arrange.Orders(l[:4])), count(arrange.Orders(l))}; got != [...]int{1, 24, 120} {
		t.Errorf("Orders: %v", got)
	}
	if got := [...]int{count(arrange.Multisets(l, 0)), count(arrange.Multisets(l[:0], 2)), count(arrange.Multisets(l, 4))}; got != [...]int{1, 0, 70} {
		t.Errorf("Multisets: %v", got)
	}
}

// What is yielded may be changed, and one may stop.
func TestNewMemory(t *testing.T) {
	l := letters("abc")
	for _, all := range []iter.Seq[[]string]{arrange.Orders(l), arrange.Multisets(l, 2)} {
		var was [][]string
		for got := range all {
			was = append(was, slices.Clone(got))
			clear(got[:cap(got)])
			if len(was) == 5 {
				break
			}
		}
		k := 0
		for got := range all {
			if k < len(was) && !slices.Equal(got, was[k]) {
				t.Errorf("%v, and then %v", was[k], got)
			}
			k++
		}
		if k != 6 || !slices.Equal(l, letters("abc")) {
			t.Errorf("%d of %v", k, l)
		}
	}
}
