package duel_test

import (
	"math"
	"slices"
	"testing"

	"feathermark/api"
	"feathermark/duel"
)

// The general rules, P1 and P2, for the functions of this package.

// numbers are numbers of alternatives, right and wrong.
func numbers() []int {
	return []int{math.MinInt, -7, -1, 0, 1, 2, 3, 4, 5, 6, 7, 8, 1000, math.MaxInt}
}

// wild returns matrices and lists of pairs of all kinds: right ones, near
// misses, and far ones.
func wild() [][][]int {
	all := [][][]int{nil, {}, {nil, nil}, make([][]int, 1000), {make([]int, 1000)}}
	for _, c := range invalid() {
		all = append(all, c.m)
	}
	for _, c := range invalidPairs() {
		all = append(all, c.beats)
	}
	for _, c := range examples() {
		all = append(all, c.m)
	}
	for n := 1; n <= 3; n++ {
		all = append(all, smallest(n)...)
	}
	return append(all, pairs(15, 0, 1), pairs(3, 5, 2), [][]int{{0, 1}, {1, 2}, {2, 0}})
}

// matrixCalls are the functions that return a list for a matrix.
func matrixCalls() []func([][]int) ([]int, api.Errno) {
	return []func([][]int) ([]int, api.Errno){duel.Wins, duel.Worst, duel.Top}
}

// call makes every call with this list.
func call(l [][]int) {
	duel.Check(l)
	for _, f := range matrixCalls() {
		f(l)
	}
	for _, n := range numbers() {
		duel.Votes(n, l)
	}
}

func TestNothingPanics(t *testing.T) {
	defer func() {
		if r := recover(); r != nil {
			t.Error("panic:", r)
		}
	}()
	for _, l := range wild() {
		call(l)
	}
}

// withSpare returns a copy of l with spare memory behind the list and behind
// each row, which belongs to the caller, too.
func withSpare(l [][]int) [][]int {
	spare := make([][]int, 0, len(l)+1)
	for _, row := range l {
		spare = append(spare, append(slices.Clone(row), 77, 78, 79, 80, 81, 82)[:len(row)])
	}
	return append(spare, []int{83})[:len(l)]
}

// whole returns a list with all its spare memory, as a copy.
func whole(l [][]int) [][]int {
	var all [][]int
	for _, row := range l[:len(l)+1] {
		all = append(all, slices.Clone(row[:cap(row)]))
	}
	return all
}

func TestArgumentsStayAsTheyAre(t *testing.T) {
	for _, l := range wild() {
		l = withSpare(l)
		was := whole(l)
		call(l)
		if !slices.EqualFunc(whole(l), was, slices.Equal) {
			t.Errorf("%v became %v", was, whole(l))
		}
	}
}

// fill overwrites the memory of a slice, with its spare capacity.
func fill(l []int, x int) {
	l = l[:cap(l)]
	for i := range l {
		l[i] = x
	}
}

func TestListsAreNewMemory(t *testing.T) {
	for i, f := range matrixCalls() {
		for _, c := range examples() {
			m := withSpare(c.m)
			was := whole(m)
			l, _ := f(m)
			again, _ := f(m)
			fill(l, -1)
			third, _ := f(m)
			if !slices.Equal(again, third) || !slices.EqualFunc(whole(m), was, slices.Equal) {
				t.Fatalf("function %d of %v depends on an earlier result", i, c.m)
			}
		}
	}
}

// fillRows removes all rows of a list, with its spare capacity.
func fillRows(l [][]int) {
	l = l[:cap(l)]
	for i := range l {
		l[i] = nil
	}
}

func TestVotesReturnsNewMemory(t *testing.T) {
	for n := 2; n <= 6; n++ {
		beats := withSpare([][]int{{0, 1}, {1, 0}, {n - 1, 0}})
		was := whole(beats)
		l, _ := duel.Votes(n, beats)
		again, _ := duel.Votes(n, beats)
		for i := range l {
			fill(l[i], -1-i)
		}
		for i := range l {
			for _, x := range l[i][:cap(l[i])] {
				if x != -1-i {
					t.Fatalf("Votes(%d, %v): ballot %d shares memory with another one", n, beats, i)
				}
			}
		}
		fillRows(l)
		third, _ := duel.Votes(n, beats)
		if !slices.EqualFunc(again, third, slices.Equal) || !slices.EqualFunc(whole(beats), was, slices.Equal) {
			t.Fatalf("Votes(%d, %v) depends on an earlier result", n, beats)
		}
		for i := range beats {
			fill(beats[i], 9)
		}
		want := slices.Concat(parts(n, 0, 1), parts(n, 1, 0), parts(n, n-1, 0))
		if !slices.EqualFunc(again, want, slices.Equal) {
			t.Fatalf("Votes(%d, %v) shares memory with its argument: %v", n, was, again)
		}
	}
}

func TestErrorsComeWithZeroValues(t *testing.T) {
	for i, f := range matrixCalls() {
		for _, c := range invalid() {
			if l, e := f(c.m); len(l) != 0 || e != c.e {
				t.Errorf("%s: function %d of %v = %v, %d, want %d", c.name, i, c.m, l, e, c.e)
			}
		}
	}
}

func TestNilIsAnEmptyList(t *testing.T) {
	if e, f := duel.Check(nil), duel.Check([][]int{}); e != f {
		t.Errorf("Check(nil) = %d; with an empty list: %d", e, f)
	}
	if e, f := duel.Check([][]int{nil}), duel.Check([][]int{{}}); e != f {
		t.Errorf("Check(a nil row) = %d; with an empty one: %d", e, f)
	}
	for i, f := range matrixCalls() {
		a, e := f(nil)
		if b, g := f([][]int{}); !slices.Equal(a, b) || e != g {
			t.Errorf("function %d of nil = %v, %d; of an empty list: %v, %d", i, a, e, b, g)
		}
	}
	for _, n := range numbers() {
		a, e := duel.Votes(n, nil)
		if b, f := duel.Votes(n, [][]int{}); len(a) != 0 || len(b) != 0 || e != f {
			t.Errorf("Votes(%d, nil) = %v, %d; with an empty list: %v, %d", n, a, e, b, f)
		}
		a, e = duel.Votes(n, [][]int{nil})
		if b, f := duel.Votes(n, [][]int{{}}); len(a) != 0 || len(b) != 0 || e != f {
			t.Errorf("Votes(%d, a nil pair) = %v, %d; with an empty one: %v, %d", n, a, e, b, f)
		}
	}
}
