package power_test

import (
	"math"
	"slices"
	"testing"

	"feathermark/api"
	"feathermark/power"
)

// The general rules, P1 and P2, for the functions of this package.

// numbers are quotas and coalitions, right and wrong.
func numbers() []int {
	return []int{math.MinInt, -7, -1, 0, 1, 2, 3, 4, 5, 31, 32, 63, 64, 1000, 6000, 6001, math.MaxInt}
}

// wild returns weights of all kinds: right ones, near misses, and far ones.
func wild() [][]int {
	wild := [][]int{nil, {}, {math.MinInt, math.MaxInt}, make([]int, 1000), same(6, 1000), same(6, math.MaxInt), same(64, math.MinInt)}
	for _, c := range invalid() {
		wild = append(wild, c.w)
	}
	for _, c := range examples() {
		wild = append(wild, c.w)
	}
	return append(wild, manyWeights(6)...)
}

// call makes every call with these weights.
func call(w []int) {
	for _, quota := range numbers() {
		power.Check(w, quota)
		power.Swings(w, quota)
		power.Turns(w, quota)
		for _, set := range numbers() {
			power.Wins(w, quota, set)
		}
	}
}

func TestNothingPanics(t *testing.T) {
	defer func() {
		if r := recover(); r != nil {
			t.Error("panic:", r)
		}
	}()
	for _, w := range wild() {
		call(w)
	}
}

// withSpare returns a copy of a list with spare memory behind it, which
// belongs to the caller, too.
func withSpare(l []int) []int {
	return append(slices.Clone(l), 77, 78)[:len(l)]
}

// whole returns a list with all its spare memory, as a copy.
func whole(l []int) []int {
	return slices.Clone(l[:cap(l)])
}

func TestArgumentsStayAsTheyAre(t *testing.T) {
	for _, w := range wild() {
		w = withSpare(w)
		was := whole(w)
		call(w)
		if !slices.Equal(whole(w), was) {
			t.Errorf("%v became %v", was, whole(w))
		}
	}
}

// fill overwrites the memory of a slice, with its spare capacity.
func fill(l []int, x int) {
	l = l[:cap(l)]
	for i := range l {
		l[i] = x
	}
}

// checkMemory holds that the results of a function with these arguments share
// no memory with the arguments or with each other.
func checkMemory(t *testing.T, name string, f func([]int, int) ([]int, api.Errno), c example, want []int) {
	w := withSpare(c.w)
	was := whole(w)
	l, _ := f(w, c.quota)
	again, _ := f(w, c.quota)
	fill(l, -1)
	third, _ := f(w, c.quota)
	if !slices.Equal(again, third) || !slices.Equal(whole(w), was) {
		t.Fatalf("%s: %s depends on an earlier result", c.name, name)
	}
	fill(w, -2)
	if !slices.Equal(again, want) {
		t.Fatalf("%s: %s shares memory with its argument", c.name, name)
	}
}

func TestResultsAreNewMemory(t *testing.T) {
	for _, c := range examples() {
		checkMemory(t, "Swings", power.Swings, c, c.swings)
		checkMemory(t, "Turns", power.Turns, c, c.turns)
	}
}

// TestNothingIsKept changes the weights between two calls, and makes the first
// call again: only the arguments count.
func TestNothingIsKept(t *testing.T) {
	w := make([]int, 3)
	for range 2 {
		copy(w, []int{2, 1, 1})
		if l, e := power.Swings(w, 3); !slices.Equal(l, []int{3, 1, 1}) || e != api.OK {
			t.Errorf("Swings(%v, 3) = %v, %d", w, l, e)
		}
		if l, e := power.Turns(w, 3); !slices.Equal(l, []int{4, 1, 1}) || e != api.OK {
			t.Errorf("Turns(%v, 3) = %v, %d", w, l, e)
		}
		if x, e := power.Wins(w, 3, 6); x || e != api.OK {
			t.Errorf("Wins(%v, 3, 6) = %v, %d", w, x, e)
		}
		copy(w, []int{1, 1, 2})
		if l, e := power.Swings(w, 3); !slices.Equal(l, []int{1, 1, 3}) || e != api.OK {
			t.Errorf("Swings(%v, 3) = %v, %d", w, l, e)
		}
		if l, e := power.Turns(w, 3); !slices.Equal(l, []int{1, 1, 4}) || e != api.OK {
			t.Errorf("Turns(%v, 3) = %v, %d", w, l, e)
		}
		if x, e := power.Wins(w, 3, 6); !x || e != api.OK {
			t.Errorf("Wins(%v, 3, 6) = %v, %d", w, x, e)
		}
		copy(w, []int{0, 0, 0})
		if l, e := power.Turns(w, 3); len(l) != 0 || e != api.ErrForm {
			t.Errorf("Turns(%v, 3) = %v, %d", w, l, e)
		}
	}
}

func TestErrorsComeWithZeroValues(t *testing.T) {
	for _, w := range wild() {
		for _, quota := range numbers() {
			if l, e := power.Swings(w, quota); (e == api.OK) != (len(l) > 0) {
				t.Errorf("Swings(%v, %d) = %v, %d", w, quota, l, e)
			}
			if l, e := power.Turns(w, quota); (e == api.OK) != (len(l) > 0) {
				t.Errorf("Turns(%v, %d) = %v, %d", w, quota, l, e)
			}
			for _, set := range numbers() {
				if x, e := power.Wins(w, quota, set); e != api.OK && x {
					t.Errorf("Wins(%v, %d, %d) = %v, %d", w, quota, set, x, e)
				}
			}
		}
	}
}

func TestNilIsAnEmptyList(t *testing.T) {
	for _, quota := range numbers() {
		if e, f := power.Check(nil, quota), power.Check([]int{}, quota); e != f {
			t.Errorf("Check(nil, %d) = %d; with an empty list: %d", quota, e, f)
		}
		if _, e := power.Swings(nil, quota); e != api.ErrLarge {
			t.Errorf("Swings(nil, %d): %d", quota, e)
		}
		if _, e := power.Turns([]int{}, quota); e != api.ErrLarge {
			t.Errorf("Turns([], %d): %d", quota, e)
		}
		for _, set := range numbers() {
			if _, e := power.Wins(nil, quota, set); e != api.ErrLarge {
				t.Errorf("Wins(nil, %d, %d): %d", quota, set, e)
			}
		}
	}
}
