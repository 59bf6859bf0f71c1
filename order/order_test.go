package order_test

import (
	"math"
	"slices"
	"testing"

	"feathermark/api"
	"feathermark/order"
)

// lists returns all lists of up to 4 of the given values.
func lists(values []int) [][]int {
	all := [][]int{nil}
	last := all
	for range 4 {
		var longer [][]int
		for _, l := range last {
			for _, x := range values {
				longer = append(longer, append(slices.Clone(l), x))
			}
		}
		all = append(all, longer...)
		last = longer
	}
	return all
}

// wild returns lists of all kinds: orders, near misses, and far ones.
func wild() [][]int {
	return append(lists([]int{-1, 0, 1, 2, 3, 4}),
		[]int{},
		[]int{math.MinInt}, []int{math.MaxInt},
		[]int{0, math.MaxInt}, []int{math.MinInt, 0},
		[]int{0, 1, 2, 3, 4}, []int{4, 3, 2, 1, 0}, []int{1, 2, 3, 4, 5},
		[]int{0, 1, 2, 3, 4, 5}, []int{5, 4, 3, 2, 1, 0}, []int{0, 1, 2, 3, 4, 6},
		[]int{0, 1, 2, 3, 4, 4}, []int{0, 0, 2, 3, 4, 5},
		[]int{0, 1, 2, 3, 4, 5, 6}, []int{6, 5, 4, 3, 2, 1, 0},
		make([]int, 1000),
	)
}

// numbers are numbers of alternatives, and alternatives, right and wrong.
func numbers() []int {
	return []int{math.MinInt, -7, -1, 0, 1, 2, 3, 4, 5, 6, 7, 8, 1000, math.MaxInt}
}

// want is what Check must return, said in another way: a sorted order of n is
// 0, 1, .. n-1.
func want(n int, p []int) api.Errno {
	if n < 1 || n > 6 {
		return api.ErrArg
	}
	sorted := slices.Sorted(slices.Values(p))
	if !slices.Equal(sorted, []int{0, 1, 2, 3, 4, 5}[:n]) {
		return api.ErrForm
	}
	return api.OK
}

// all returns all orders of n, in no order that matters, made without order.All.
func all(n int) [][]int {
	if n == 0 {
		return [][]int{nil}
	}
	var l [][]int
	for _, p := range all(n - 1) {
		for i := range n {
			l = append(l, slices.Insert(slices.Clone(p), i, n-1))
		}
	}
	return l
}

func TestCheck(t *testing.T) {
	tests := []struct {
		n int
		p []int
		e api.Errno
	}{
		{1, []int{0}, api.OK},
		{2, []int{1, 0}, api.OK},
		{3, []int{2, 0, 1}, api.OK},
		{6, []int{5, 3, 1, 0, 2, 4}, api.OK},
		{0, nil, api.ErrArg},
		{0, []int{}, api.ErrArg},
		{-1, []int{0}, api.ErrArg},
		{7, []int{0, 1, 2, 3, 4, 5, 6}, api.ErrArg},
		{7, []int{9}, api.ErrArg},
		{math.MinInt, nil, api.ErrArg},
		{math.MaxInt, nil, api.ErrArg},
		{1, nil, api.ErrForm},
		{1, []int{}, api.ErrForm},
		{1, []int{1}, api.ErrForm},
		{1, []int{0, 0}, api.ErrForm},
		{2, []int{0}, api.ErrForm},
		{2, []int{0, 1, 2}, api.ErrForm},
		{2, []int{0, 0}, api.ErrForm},
		{3, []int{0, 1, 3}, api.ErrForm},
		{3, []int{0, -1, 1}, api.ErrForm},
		{3, []int{1, 2, 3}, api.ErrForm},
		{6, []int{0, 1, 2, 3, 4, 6}, api.ErrForm},
		{6, []int{0, 1, 2, 3, 4, 0}, api.ErrForm},
		{2, []int{0, math.MaxInt}, api.ErrForm},
		{2, []int{math.MinInt, 0}, api.ErrForm},
		{2, make([]int, 1000), api.ErrForm},
	}
	for _, c := range tests {
		if e := order.Check(c.n, c.p); e != c.e {
			t.Errorf("Check(%d, %v) = %d, want %d", c.n, c.p, e, c.e)
		}
	}
}

func TestCheckOfAllLists(t *testing.T) {
	for _, p := range wild() {
		for _, n := range numbers() {
			if e := order.Check(n, p); e != want(n, p) {
				t.Errorf("Check(%d, %v) = %d, want %d", n, p, e, want(n, p))
			}
		}
	}
	for n := 1; n <= 6; n++ {
		for _, p := range all(n) {
			if e := order.Check(n, p); e != api.OK {
				t.Errorf("Check(%d, %v) = %d", n, p, e)
			}
		}
	}
}

func TestPlace(t *testing.T) {
	tests := []struct {
		p []int
		x int
		i int
		e api.Errno
	}{
		{[]int{0}, 0, 0, api.OK},
		{[]int{2, 0, 1}, 2, 0, api.OK},
		{[]int{2, 0, 1}, 0, 1, api.OK},
		{[]int{2, 0, 1}, 1, 2, api.OK},
		{[]int{5, 4, 3, 2, 1, 0}, 0, 5, api.OK},
		{nil, 0, 0, api.ErrArg},
		{[]int{}, 0, 0, api.ErrArg},
		{[]int{0, 1, 2, 3, 4, 5, 6}, 3, 0, api.ErrArg},
		{[]int{0, 1, 2, 3, 4, 5, 6}, 7, 0, api.ErrArg},
		{[]int{1, 1}, 1, 0, api.ErrForm},
		{[]int{1, 2}, 2, 0, api.ErrForm},
		{[]int{1, 2}, 0, 0, api.ErrForm},
		{[]int{0, -1}, -1, 0, api.ErrForm},
		{[]int{1, 0}, 2, 0, api.ErrNone},
		{[]int{1, 0}, -1, 0, api.ErrNone},
		{[]int{1, 0}, math.MaxInt, 0, api.ErrNone},
		{[]int{1, 0}, math.MinInt, 0, api.ErrNone},
	}
	for _, c := range tests {
		if i, e := order.Place(c.p, c.x); i != c.i || e != c.e {
			t.Errorf("Place(%v, %d) = %d, %d, want %d, %d", c.p, c.x, i, e, c.i, c.e)
		}
	}
}

func TestPlaceOfAllOrders(t *testing.T) {
	for n := 1; n <= 6; n++ {
		for _, p := range all(n) {
			for i, x := range p {
				if k, e := order.Place(p, x); k != i || e != api.OK {
					t.Errorf("Place(%v, %d) = %d, %d", p, x, k, e)
				}
			}
		}
	}
}

func TestFar(t *testing.T) {
	tests := []struct {
		p, q []int
		far  int
		e    api.Errno
	}{
		{[]int{0, 1, 2}, []int{1, 2, 0}, 2, api.OK},
		{[]int{0, 1, 2}, []int{2, 0, 1}, 2, api.OK},
		{[]int{1, 2, 0}, []int{2, 0, 1}, 2, api.OK},
		{[]int{0}, []int{0}, 0, api.OK},
		{[]int{0, 1}, []int{1, 0}, 1, api.OK},
		{[]int{3, 1, 2, 0}, []int{3, 1, 2, 0}, 0, api.OK},
		{[]int{3, 1, 2, 0}, []int{3, 2, 1, 0}, 1, api.OK},
		{[]int{0, 1, 2, 3, 4, 5}, []int{5, 4, 3, 2, 1, 0}, 15, api.OK},
		{nil, nil, 0, api.ErrArg},
		{[]int{}, []int{0}, 0, api.ErrArg},
		{[]int{0, 1, 2, 3, 4, 5, 6}, []int{0, 1, 2, 3, 4, 5, 6}, 0, api.ErrArg},
		{[]int{0, 1, 2, 3, 4, 5, 6}, []int{9}, 0, api.ErrArg},
		{[]int{0, 0}, []int{0, 1}, 0, api.ErrForm},
		{[]int{0, 0}, nil, 0, api.ErrForm},
		{[]int{0, 1}, []int{1, 1}, 0, api.ErrForm},
		{[]int{0, 1}, nil, 0, api.ErrForm},
		{[]int{0, 1}, []int{0}, 0, api.ErrForm},
		{[]int{0, 1}, []int{0, 1, 2}, 0, api.ErrForm},
		{[]int{0, 1}, []int{0, 1, 2, 3, 4, 5, 6}, 0, api.ErrForm},
		{[]int{0, 1}, []int{0, -1}, 0, api.ErrForm},
		{[]int{0, 1}, []int{0, math.MaxInt}, 0, api.ErrForm},
	}
	for _, c := range tests {
		if far, e := order.Far(c.p, c.q); far != c.far || e != c.e {
			t.Errorf("Far(%v, %v) = %d, %d, want %d, %d", c.p, c.q, far, e, c.far, c.e)
		}
	}
}

// differing counts the pairs that p and q rank differently, as P5 says it.
func differing(p, q []int) int {
	count := 0
	for x := range p {
		for y := range x {
			inP := slices.Index(p, x) < slices.Index(p, y)
			inQ := slices.Index(q, x) < slices.Index(q, y)
			if inP != inQ {
				count++
			}
		}
	}
	return count
}

func TestFarOfAllPairs(t *testing.T) {
	for n := 1; n <= 5; n++ {
		for _, p := range all(n) {
			for _, q := range all(n) {
				if far, e := order.Far(p, q); far != differing(p, q) || e != api.OK {
					t.Fatalf("Far(%v, %v) = %d, %d", p, q, far, e)
				}
			}
		}
	}
	first := []int{0, 1, 2, 3, 4, 5}
	for _, p := range all(6) {
		if far, e := order.Far(p, first); far != differing(p, first) || e != api.OK {
			t.Fatalf("Far(%v, %v) = %d, %d", p, first, far, e)
		}
	}
}

func TestRaise(t *testing.T) {
	tests := []struct {
		p []int
		x int
		l []int
		e api.Errno
	}{
		{[]int{0, 1, 2}, 2, []int{0, 2, 1}, api.OK},
		{[]int{0, 1, 2}, 1, []int{1, 0, 2}, api.OK},
		{[]int{2, 0, 1}, 0, []int{0, 2, 1}, api.OK},
		{[]int{5, 4, 3, 2, 1, 0}, 0, []int{5, 4, 3, 2, 0, 1}, api.OK},
		{[]int{0}, 0, nil, api.ErrState},
		{[]int{0, 1, 2}, 0, nil, api.ErrState},
		{[]int{2, 0, 1}, 2, nil, api.ErrState},
		{nil, 0, nil, api.ErrArg},
		{[]int{}, 0, nil, api.ErrArg},
		{[]int{0, 1, 2, 3, 4, 5, 6}, 0, nil, api.ErrArg},
		{[]int{1, 1}, 1, nil, api.ErrForm},
		{[]int{1, 2}, 3, nil, api.ErrForm},
		{[]int{0, 1}, 2, nil, api.ErrNone},
		{[]int{0, 1}, -1, nil, api.ErrNone},
		{[]int{0, 1}, math.MaxInt, nil, api.ErrNone},
		{[]int{0, 1}, math.MinInt, nil, api.ErrNone},
	}
	for _, c := range tests {
		if l, e := order.Raise(c.p, c.x); !slices.Equal(l, c.l) || e != c.e {
			t.Errorf("Raise(%v, %d) = %v, %d, want %v, %d", c.p, c.x, l, e, c.l, c.e)
		}
	}
}

func TestRaiseOfAllOrders(t *testing.T) {
	for n := 1; n <= 6; n++ {
		for _, p := range all(n) {
			if l, e := order.Raise(p, p[0]); len(l) != 0 || e != api.ErrState {
				t.Errorf("Raise(%v, %d) = %v, %d", p, p[0], l, e)
			}
			for i := 1; i < n; i++ {
				raised := slices.Concat(p[:i-1], []int{p[i], p[i-1]}, p[i+1:])
				if l, e := order.Raise(p, p[i]); !slices.Equal(l, raised) || e != api.OK {
					t.Errorf("Raise(%v, %d) = %v, %d", p, p[i], l, e)
				}
			}
		}
	}
}

func TestAll(t *testing.T) {
	tests := []struct {
		n int
		l [][]int
		e api.Errno
	}{
		{1, [][]int{{0}}, api.OK},
		{2, [][]int{{0, 1}, {1, 0}}, api.OK},
		{3, [][]int{{0, 1, 2}, {0, 2, 1}, {1, 0, 2}, {1, 2, 0}, {2, 0, 1}, {2, 1, 0}}, api.OK},
		{0, nil, api.ErrArg},
		{-1, nil, api.ErrArg},
		{7, nil, api.ErrArg},
		{math.MinInt, nil, api.ErrArg},
		{math.MaxInt, nil, api.ErrArg},
	}
	for _, c := range tests {
		if l, e := order.All(c.n); !slices.EqualFunc(l, c.l, slices.Equal) || e != c.e {
			t.Errorf("All(%d) = %v, %d, want %v, %d", c.n, l, e, c.l, c.e)
		}
	}
}

func TestAllIsWholeAndSorted(t *testing.T) {
	for n := 1; n <= 6; n++ {
		whole := all(n)
		slices.SortFunc(whole, slices.Compare)
		if l, e := order.All(n); !slices.EqualFunc(l, whole, slices.Equal) || e != api.OK {
			t.Errorf("All(%d) = %v, %d", n, l, e)
		}
	}
}
