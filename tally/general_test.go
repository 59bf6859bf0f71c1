package tally_test

import (
	"math"
	"slices"
	"testing"

	"feathermark/api"
	"feathermark/tally"
)

// The general rules, P1 and P2, for the functions of this package.

// numbers are numbers of alternatives, right and wrong.
func numbers() []int {
	return []int{math.MinInt, -7, -1, 0, 1, 2, 3, 4, 5, 6, 7, 8, 1000, math.MaxInt}
}

// wild returns votes of all kinds: right ones, near misses, and far ones.
func wild() [][][]int {
	all := [][][]int{nil, {}, {nil, nil}, make([][]int, 1000), {make([]int, 1000)}}
	for _, c := range invalid() {
		all = append(all, c.votes)
	}
	for n := 1; n <= 6; n++ {
		all = append(all, votesOf(n, 1)...)
	}
	return append(all, cycle(), times(30, 1, 0), times(30, 5, 4, 3, 2, 1, 0))
}

// call makes every call with these arguments.
func call(n int, votes [][]int) {
	tally.Check(n, votes)
	tally.Duels(n, votes)
	tally.Firsts(n, votes)
	tally.Points(n, votes)
	tally.Beater(n, votes)
}

func TestNothingPanics(t *testing.T) {
	defer func() {
		if r := recover(); r != nil {
			t.Error("panic:", r)
		}
	}()
	for _, votes := range wild() {
		for _, n := range numbers() {
			call(n, votes)
		}
	}
}

// withSpare returns a copy of votes with spare memory behind the list and
// behind each ballot, which belongs to the caller, too.
func withSpare(votes [][]int) [][]int {
	spare := make([][]int, 0, len(votes)+1)
	for _, p := range votes {
		spare = append(spare, append(slices.Clone(p), 77, 78)[:len(p)])
	}
	return append(spare, []int{79})[:len(votes)]
}

// whole returns a list of ballots with all its spare memory, as a copy.
func whole(votes [][]int) [][]int {
	var l [][]int
	for _, p := range votes[:len(votes)+1] {
		l = append(l, slices.Clone(p[:cap(p)]))
	}
	return l
}

func TestArgumentsStayAsTheyAre(t *testing.T) {
	for _, votes := range wild() {
		votes = withSpare(votes)
		was := whole(votes)
		for _, n := range numbers() {
			call(n, votes)
		}
		if !slices.EqualFunc(whole(votes), was, slices.Equal) {
			t.Errorf("%v became %v", was, whole(votes))
		}
	}
}

// fill overwrites the memory of a slice, with its spare capacity.
func fill(l []int, x int) {
	l = l[:cap(l)]
	for i := range l {
		l[i] = x
	}
}

func TestDuelsReturnsNewMemory(t *testing.T) {
	for n := 1; n <= 6; n++ {
		votes := votesOf(n, 1)[1]
		was := slices.Clone(votes[0])
		l, _ := tally.Duels(n, votes)
		again, _ := tally.Duels(n, votes)
		for x := range l {
			fill(l[x], -1-x)
		}
		for x := range l {
			if l[x][0] != -1-x || l[x][n-1] != -1-x {
				t.Fatalf("Duels(%d, %v): row %d shares memory with another one", n, was, x)
			}
		}
		third, _ := tally.Duels(n, votes)
		if !slices.EqualFunc(again, third, slices.Equal) || !slices.Equal(votes[0], was) {
			t.Fatalf("Duels(%d, %v) depends on an earlier result", n, was)
		}
	}
}

func TestCountsReturnNewMemory(t *testing.T) {
	counts := []func(int, [][]int) ([]int, api.Errno){tally.Firsts, tally.Points}
	for i, count := range counts {
		for n := 1; n <= 6; n++ {
			votes := votesOf(n, 1)[1]
			was := slices.Clone(votes[0])
			l, _ := count(n, votes)
			again, _ := count(n, votes)
			fill(l, -1)
			third, _ := count(n, votes)
			if !slices.Equal(again, third) || !slices.Equal(votes[0], was) {
				t.Fatalf("function %d of (%d, %v) depends on an earlier result", i, n, was)
			}
		}
	}
}

func TestErrorsComeWithZeroValues(t *testing.T) {
	for _, c := range invalid() {
		if l, e := tally.Duels(c.n, c.votes); len(l) != 0 || e != c.e {
			t.Errorf("Duels(%d, %v) = %v, %d, want %d", c.n, c.votes, l, e, c.e)
		}
		if l, e := tally.Firsts(c.n, c.votes); len(l) != 0 || e != c.e {
			t.Errorf("Firsts(%d, %v) = %v, %d, want %d", c.n, c.votes, l, e, c.e)
		}
		if l, e := tally.Points(c.n, c.votes); len(l) != 0 || e != c.e {
			t.Errorf("Points(%d, %v) = %v, %d, want %d", c.n, c.votes, l, e, c.e)
		}
		if x, e := tally.Beater(c.n, c.votes); x != 0 || e != c.e {
			t.Errorf("Beater(%d, %v) = %d, %d, want %d", c.n, c.votes, x, e, c.e)
		}
	}
}

func TestNilIsAnEmptyList(t *testing.T) {
	for _, n := range numbers() {
		if e, f := tally.Check(n, nil), tally.Check(n, [][]int{}); e != f {
			t.Errorf("Check(%d, nil) = %d; with an empty list: %d", n, e, f)
		}
		if e, f := tally.Check(n, [][]int{nil}), tally.Check(n, [][]int{{}}); e != f {
			t.Errorf("Check(%d, a nil ballot) = %d; with an empty one: %d", n, e, f)
		}
		a, e := tally.Duels(n, nil)
		if b, f := tally.Duels(n, [][]int{}); !slices.EqualFunc(a, b, slices.Equal) || e != f {
			t.Errorf("Duels(%d, nil) = %v, %d; with an empty list: %v, %d", n, a, e, b, f)
		}
		x, e := tally.Beater(n, nil)
		if y, f := tally.Beater(n, [][]int{}); x != y || e != f {
			t.Errorf("Beater(%d, nil) = %d, %d; with an empty list: %d, %d", n, x, e, y, f)
		}
	}
}
