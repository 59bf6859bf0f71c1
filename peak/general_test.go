package peak_test

import (
	"math"
	"slices"
	"testing"

	"feathermark/api"
	"feathermark/order"
	"feathermark/peak"
)

// The general rules, P1 and P2, for the functions of this package.

// wildOrders returns orders of all kinds: right ones, near misses, and far
// ones.
func wildOrders() [][]int {
	all := [][]int{
		nil, {}, {1}, {0, 0}, {0, 2}, {0, 1, -1}, {4, 3, 2, 1, 0}, {5, 0, 4, 1, 3, 2},
		{0, 1, 2, 3, 4, 5}, {0, 1, 2, 3, 4, 5, 6}, {math.MinInt, math.MaxInt}, make([]int, 1000),
	}
	for n := 1; n <= 3; n++ {
		orders, _ := order.All(n)
		all = append(all, orders...)
	}
	return all
}

// wildVotes returns votes of all kinds.
func wildVotes() [][][]int {
	all := [][][]int{nil, {}, {nil, nil}, make([][]int, 1000), {make([]int, 1000)}}
	for _, c := range wrongVotes() {
		all = append(all, c.votes)
	}
	for _, c := range examples() {
		all = append(all, c.votes)
	}
	for _, p := range wildOrders() {
		all = append(all, [][]int{p})
	}
	return append(all, times(30, 1, 0), times(30, 5, 4, 3, 2, 1, 0))
}

// call makes every call with this line.
func call(line []int, orders [][]int, votes [][][]int) {
	for _, p := range orders {
		peak.Along(line, p)
	}
	for _, v := range votes {
		peak.All(line, v)
		peak.Middle(line, v)
	}
}

func TestNothingPanics(t *testing.T) {
	defer func() {
		if r := recover(); r != nil {
			t.Error("panic:", r)
		}
	}()
	for _, line := range wildOrders() {
		call(line, wildOrders(), wildVotes())
	}
}

// withSpare returns a copy of a list with spare memory behind it and behind
// each of its orders, which belongs to the caller, too.
func withSpare(list [][]int) [][]int {
	spare := make([][]int, 0, len(list)+1)
	for _, p := range list {
		spare = append(spare, append(slices.Clone(p), 77, 78)[:len(p)])
	}
	return append(spare, []int{79})[:len(list)]
}

// whole returns a list of orders with all its spare memory, as a copy.
func whole(list [][]int) [][]int {
	var l [][]int
	for _, p := range list[:len(list)+1] {
		l = append(l, slices.Clone(p[:cap(p)]))
	}
	return l
}

func TestArgumentsStayAsTheyAre(t *testing.T) {
	orders := withSpare(wildOrders())
	lists := [][][]int{orders}
	for _, votes := range wildVotes() {
		lists = append(lists, withSpare(votes))
	}
	var were [][][]int
	for _, list := range lists {
		were = append(were, whole(list))
	}
	for _, line := range orders {
		call(line, orders, lists[1:])
	}
	for i, list := range lists {
		if !slices.EqualFunc(whole(list), were[i], slices.Equal) {
			t.Errorf("%v became %v", were[i], whole(list))
		}
	}
}

// TestNothingIsKept changes the arguments between two calls, and makes the
// first call again: only the arguments count.
func TestNothingIsKept(t *testing.T) {
	line := []int{0, 1, 2}
	votes := [][]int{{0, 1, 2}, {2, 1, 0}, {2, 1, 0}}
	for range 2 {
		copy(line, []int{0, 1, 2})
		if x, e := peak.Middle(line, votes); x != 2 || e != api.OK {
			t.Errorf("Middle(%v, %v) = %d, %d", line, votes, x, e)
		}
		copy(line, []int{1, 0, 2})
		if x, e := peak.Middle(line, votes); x != 0 || e != api.ErrForm {
			t.Errorf("Middle(%v, %v) = %d, %d", line, votes, x, e)
		}
		if x, e := peak.All(line, votes); x || e != api.OK {
			t.Errorf("All(%v, %v) = %t, %d", line, votes, x, e)
		}
		if x, e := peak.Along(line, votes[1]); x || e != api.OK {
			t.Errorf("Along(%v, %v) = %t, %d", line, votes[1], x, e)
		}
	}
}

func TestErrorsComeWithZeroValues(t *testing.T) {
	for _, line := range wildOrders() {
		for _, p := range wildOrders() {
			if x, e := peak.Along(line, p); e != api.OK && x {
				t.Errorf("Along(%v, %v) = %t, %d", line, p, x, e)
			}
		}
		for _, votes := range wildVotes() {
			if x, e := peak.All(line, votes); e != api.OK && x {
				t.Errorf("All(%v, %v) = %t, %d", line, votes, x, e)
			}
			if x, e := peak.Middle(line, votes); e != api.OK && x != 0 {
				t.Errorf("Middle(%v, %v) = %d, %d", line, votes, x, e)
			}
		}
	}
}

func TestNilIsAnEmptyList(t *testing.T) {
	for _, line := range wildOrders() {
		x, e := peak.Along(line, nil)
		if y, f := peak.Along(line, []int{}); x != y || e != f {
			t.Errorf("Along(%v) of a nil order = %t, %d; of an empty one: %t, %d", line, x, e, y, f)
		}
		x, e = peak.Along(nil, line)
		if y, f := peak.Along([]int{}, line); x != y || e != f {
			t.Errorf("Along(%v) of a nil line = %t, %d; of an empty one: %t, %d", line, x, e, y, f)
		}
		for _, pair := range [][2][][]int{{nil, {}}, {{nil}, {{}}}, {{{0}, nil}, {{0}, {}}}} {
			x, e := peak.All(line, pair[0])
			if y, f := peak.All(line, pair[1]); x != y || e != f {
				t.Errorf("All(%v) of a nil list = %t, %d; of an empty one: %t, %d", line, x, e, y, f)
			}
			m, e := peak.Middle(line, pair[0])
			if k, f := peak.Middle(line, pair[1]); m != k || e != f {
				t.Errorf("Middle(%v) of a nil list = %d, %d; of an empty one: %d, %d", line, m, e, k, f)
			}
		}
	}
}
