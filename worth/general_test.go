package worth_test

import (
	"math"
	"slices"
	"testing"

	"feathermark/api"
	"feathermark/worth"
)

// The general rules, P1 and P2, for the functions of this package.

// numbers are counts of players, right and wrong.
func numbers() []int {
	return []int{math.MinInt, -64, -1, 0, 1, 2, 3, 5, 6, 7, 31, 32, 63, 64, 65, math.MaxInt}
}

// wild returns values of all kinds: right ones, near misses, and far ones.
func wild() [][]int {
	wild := [][]int{nil, {}, {math.MinInt, math.MaxInt}, make([]int, 1000), same(64, math.MaxInt), same(64, math.MinInt)}
	for _, c := range invalid() {
		wild = append(wild, c.v)
	}
	for _, c := range examples() {
		wild = append(wild, c.v)
	}
	return wild
}

// lists are orders and divisions, right and wrong.
func lists() [][]int {
	return append(wrongRows(), []int{0}, []int{1, 0}, []int{2, 0, 1}, []int{5, 4, 3, 2, 1, 0},
		[]int{2, 3}, []int{1000000000, -1000000000}, []int{1000000001, 0}, same(6, math.MaxInt), same(6, math.MinInt), same(7, 0))
}

// call makes every call with these arguments.
func call(n int, v, l []int) {
	worth.Check(n, v)
	worth.Share(n, v)
	worth.Row(n, v, l)
	worth.Holds(n, v, l)
	worth.Round(n, v)
}

func TestNothingPanics(t *testing.T) {
	defer func() {
		if r := recover(); r != nil {
			t.Error("panic:", r)
		}
	}()
	for _, n := range numbers() {
		for _, v := range wild() {
			for _, l := range lists() {
				call(n, v, l)
			}
		}
	}
}

// withSpare returns a copy of a list with spare memory behind it, which
// belongs to the caller, too.
func withSpare(l []int) []int {
	return append(slices.Clone(l), 77, 78)[:len(l)]
}

// whole returns a list with all its spare memory, as a copy.
func whole(l []int) []int {
	return slices.Clone(l[:cap(l)])
}

func TestArgumentsStayAsTheyAre(t *testing.T) {
	for _, n := range numbers() {
		for _, v := range wild() {
			for _, l := range lists() {
				v, l := withSpare(v), withSpare(l)
				values, list := whole(v), whole(l)
				call(n, v, l)
				if !slices.Equal(whole(v), values) || !slices.Equal(whole(l), list) {
					t.Fatalf("%v, %v became %v, %v", values, list, whole(v), whole(l))
				}
			}
		}
	}
}

// fill overwrites the memory of a slice, with its spare capacity.
func fill(l []int, x int) {
	l = l[:cap(l)]
	for i := range l {
		l[i] = x
	}
}

// checkMemory holds that the results of a function with these arguments share
// no memory with the arguments or with each other.
func checkMemory(t *testing.T, name string, f func(v, row []int) ([]int, api.Errno), c example) {
	v, row := withSpare(c.v), withSpare(orders(c.n)[0])
	values, list := whole(v), whole(row)
	l, _ := f(v, row)
	want := slices.Clone(l)
	again, _ := f(v, row)
	fill(l, -1)
	third, _ := f(v, row)
	if !slices.Equal(again, third) || !slices.Equal(whole(v), values) || !slices.Equal(whole(row), list) {
		t.Fatalf("%s: %s depends on an earlier result", c.name, name)
	}
	fill(v, -2)
	fill(row, -2)
	if !slices.Equal(again, want) {
		t.Fatalf("%s: %s shares memory with its arguments", c.name, name)
	}
}

func TestResultsAreNewMemory(t *testing.T) {
	for _, c := range examples() {
		checkMemory(t, "Share", func(v, row []int) ([]int, api.Errno) { return worth.Share(c.n, v) }, c)
		checkMemory(t, "Row", func(v, row []int) ([]int, api.Errno) { return worth.Row(c.n, v, row) }, c)
	}
}

// TestNothingIsKept changes the arguments between two calls, and makes the
// first call again: only the arguments count.
func TestNothingIsKept(t *testing.T) {
	type round struct {
		v, row, x, share, contributions []int
		holds, convex                   bool
	}
	rounds := []round{
		{[]int{0, 1, 2, 5}, []int{0, 1}, []int{2, 3}, []int{4, 6}, []int{1, 4}, true, true},
		{[]int{0, 3, 3, 5}, []int{1, 0}, []int{3, 2}, []int{5, 5}, []int{2, 3}, false, false},
		{[]int{0, 1, 2, 5}, []int{0, 1}, []int{2, 3}, []int{4, 6}, []int{1, 4}, true, true},
	}
	v, row, x := make([]int, 4), make([]int, 2), make([]int, 2)
	for _, r := range rounds {
		copy(v, r.v)
		copy(row, r.row)
		copy(x, r.x)
		if l, e := worth.Share(2, v); !slices.Equal(l, r.share) || e != api.OK {
			t.Errorf("Share(2, %v) = %v, %d", v, l, e)
		}
		if l, e := worth.Row(2, v, row); !slices.Equal(l, r.contributions) || e != api.OK {
			t.Errorf("Row(2, %v, %v) = %v, %d", v, row, l, e)
		}
		if ok, e := worth.Holds(2, v, x); ok != r.holds || e != api.OK {
			t.Errorf("Holds(2, %v, %v) = %v, %d", v, x, ok, e)
		}
		if ok, e := worth.Round(2, v); ok != r.convex || e != api.OK {
			t.Errorf("Round(2, %v) = %v, %d", v, ok, e)
		}
	}
}

func TestErrorsComeWithZeroValues(t *testing.T) {
	for _, n := range numbers() {
		for _, v := range wild() {
			if l, e := worth.Share(n, v); (e == api.OK) != (len(l) > 0) {
				t.Errorf("Share(%d, %v) = %v, %d", n, v, l, e)
			}
			if x, e := worth.Round(n, v); e != api.OK && x {
				t.Errorf("Round(%d, %v) = %v, %d", n, v, x, e)
			}
			for _, list := range lists() {
				if l, e := worth.Row(n, v, list); (e == api.OK) != (len(l) > 0) {
					t.Errorf("Row(%d, %v, %v) = %v, %d", n, v, list, l, e)
				}
				if x, e := worth.Holds(n, v, list); e != api.OK && x {
					t.Errorf("Holds(%d, %v, %v) = %v, %d", n, v, list, x, e)
				}
			}
		}
	}
}

func TestNilIsAnEmptyList(t *testing.T) {
	for _, n := range numbers() {
		want := api.ErrArg
		if n >= 1 && n <= 6 {
			want = api.ErrForm
		}
		for _, v := range [][]int{nil, {}} {
			if e := worth.Check(n, v); e != want {
				t.Errorf("Check(%d, %v) = %d", n, v, e)
			}
			if _, e := worth.Share(n, v); e != want {
				t.Errorf("Share(%d, %v): %d", n, v, e)
			}
			if _, e := worth.Round(n, v); e != want {
				t.Errorf("Round(%d, %v): %d", n, v, e)
			}
		}
	}
	for _, l := range [][]int{nil, {}} {
		if _, e := worth.Row(1, []int{0, 1}, l); e != api.ErrForm {
			t.Errorf("Row(1, [0 1], %v): %d", l, e)
		}
		if _, e := worth.Holds(1, []int{0, 1}, l); e != api.ErrForm {
			t.Errorf("Holds(1, [0 1], %v): %d", l, e)
		}
	}
}
