package middle_test

import (
	"math"
	"slices"
	"testing"

	"feathermark/api"
	"feathermark/middle"
)

// The general rules, P1 and P2, for the functions of this package.

// numbers are numbers of alternatives, right and wrong.
func numbers() []int {
	return []int{math.MinInt, -7, -1, 0, 1, 2, 3, 4, 5, 6, 7, 8, 1000, math.MaxInt}
}

// wild returns votes of all kinds: right ones, near misses, and far ones.
func wild() [][][]int {
	all := [][][]int{nil, {}, {nil, nil}, make([][]int, 1000), {make([]int, 1000)}}
	for _, c := range invalidVotes() {
		all = append(all, c.votes)
	}
	for _, c := range examples() {
		all = append(all, c.votes)
	}
	for n := 1; n <= 4; n++ {
		all = append(all, votesOf(n, 1)...)
	}
	return append(all, times(30, 1, 0), times(30, 5, 4, 3, 2, 1, 0))
}

// wildOrders returns orders of all kinds, with spare memory behind each.
func wildOrders() [][]int {
	return withSpare([][]int{
		nil, {}, {0}, {1}, {1, 0}, {0, 0}, {0, 2}, {2, 0, 1}, {0, 1, -1}, {3, 1, 2, 0},
		{4, 3, 2, 1, 0}, {5, 0, 4, 1, 3, 2}, {0, 1, 2, 3, 4, 5, 6},
		{math.MinInt, math.MaxInt}, make([]int, 1000),
	})
}

// call makes every call with this vote and these orders.
func call(votes, orders [][]int) {
	for _, n := range numbers() {
		middle.Best(n, votes)
		for _, p := range orders {
			middle.Far(n, votes, p)
		}
	}
}

func TestNothingPanics(t *testing.T) {
	defer func() {
		if r := recover(); r != nil {
			t.Error("panic:", r)
		}
	}()
	for _, votes := range wild() {
		call(votes, wildOrders())
	}
}

// withSpare returns a copy of votes with spare memory behind the list and
// behind each ballot, which belongs to the caller, too.
func withSpare(votes [][]int) [][]int {
	spare := make([][]int, 0, len(votes)+1)
	for _, p := range votes {
		spare = append(spare, append(slices.Clone(p), 77, 78)[:len(p)])
	}
	return append(spare, []int{79})[:len(votes)]
}

// whole returns a list of ballots with all its spare memory, as a copy.
func whole(votes [][]int) [][]int {
	var l [][]int
	for _, p := range votes[:len(votes)+1] {
		l = append(l, slices.Clone(p[:cap(p)]))
	}
	return l
}

func TestArgumentsStayAsTheyAre(t *testing.T) {
	orders := wildOrders()
	ordersWere := whole(orders)
	for _, votes := range wild() {
		votes = withSpare(votes)
		was := whole(votes)
		call(votes, orders)
		if !slices.EqualFunc(whole(votes), was, slices.Equal) {
			t.Errorf("%v became %v", was, whole(votes))
		}
	}
	if !slices.EqualFunc(whole(orders), ordersWere, slices.Equal) {
		t.Errorf("%v became %v", ordersWere, whole(orders))
	}
}

// fill overwrites the memory of a slice, with its spare capacity.
func fill(l []int, x int) {
	l = l[:cap(l)]
	for i := range l {
		l[i] = x
	}
}

func TestBestReturnsNewMemory(t *testing.T) {
	for _, c := range examples() {
		votes := withSpare(c.votes)
		was := whole(votes)
		p, _, _ := middle.Best(c.n, votes)
		again, _, _ := middle.Best(c.n, votes)
		fill(p, -1)
		third, _, _ := middle.Best(c.n, votes)
		if !slices.Equal(again, third) || !slices.EqualFunc(whole(votes), was, slices.Equal) {
			t.Fatalf("%s: Best depends on an earlier result", c.name)
		}
		for _, q := range votes {
			fill(q, -2)
		}
		if !slices.Equal(again, c.best) {
			t.Fatalf("%s: Best shares memory with its argument", c.name)
		}
	}
}

func TestErrorsComeWithZeroValues(t *testing.T) {
	for _, votes := range wild() {
		for _, n := range numbers() {
			p, sum, e := middle.Best(n, votes)
			if e == api.OK && len(p) != n || e != api.OK && (len(p) != 0 || sum != 0) {
				t.Errorf("Best(%d, %v) = %v, %d, %d", n, votes, p, sum, e)
			}
			for _, q := range wildOrders() {
				if far, e := middle.Far(n, votes, q); e != api.OK && far != 0 {
					t.Errorf("Far(%d, %v, %v) = %d, %d", n, votes, q, far, e)
				}
			}
		}
	}
}

func TestNilIsAnEmptyList(t *testing.T) {
	pairs := [][2][][]int{{nil, {}}, {{nil}, {{}}}, {{{0}, nil}, {{0}, {}}}}
	for _, pair := range pairs {
		for _, n := range numbers() {
			p, sum, e := middle.Best(n, pair[0])
			if q, same, f := middle.Best(n, pair[1]); !slices.Equal(p, q) || sum != same || e != f {
				t.Errorf("Best(%d) of a nil list = %v, %d, %d; of an empty one: %v, %d, %d", n, p, sum, e, q, same, f)
			}
			for _, p := range wildOrders() {
				far, e := middle.Far(n, pair[0], p)
				if same, f := middle.Far(n, pair[1], p); far != same || e != f {
					t.Errorf("Far(%d, %v) of a nil list = %d, %d; of an empty one: %d, %d", n, p, far, e, same, f)
				}
			}
			far, e := middle.Far(n, pair[0], nil)
			if same, f := middle.Far(n, pair[0], []int{}); far != same || e != f {
				t.Errorf("Far(%d, %v) of a nil order = %d, %d; of an empty one: %d, %d", n, pair[0], far, e, same, f)
			}
		}
	}
}
