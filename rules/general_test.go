package rules_test

import (
	"math"
	"slices"
	"testing"

	"feathermark/api"
	"feathermark/rules"
)

// The general rules, P1 and P2, for the functions of this package.

// numbers are rules and numbers of alternatives, right and wrong.
func numbers() []int {
	return []int{math.MinInt, -7, -1, 0, 1, 2, 3, 4, 5, 6, 7, 8, 1000, math.MaxInt}
}

// wild returns votes of all kinds: right ones, near misses, and far ones.
func wild() [][][]int {
	all := [][][]int{nil, {}, {nil, nil}, make([][]int, 1000), {make([]int, 1000)}}
	for _, c := range invalidVotes(1) {
		all = append(all, c.votes)
	}
	for _, c := range examples() {
		all = append(all, c.votes)
	}
	for n := 1; n <= 4; n++ {
		all = append(all, votesOf(n, 1)...)
	}
	return append(all, times(30, 1, 0), times(30, 5, 4, 3, 2, 1, 0))
}

// call makes every call with this vote.
func call(votes [][]int) {
	for _, rule := range numbers() {
		for _, n := range numbers() {
			rules.Winners(rule, n, votes)
			rules.Sole(rule, n, votes)
		}
	}
}

func TestNothingPanics(t *testing.T) {
	defer func() {
		if r := recover(); r != nil {
			t.Error("panic:", r)
		}
	}()
	for _, votes := range wild() {
		call(votes)
	}
}

// withSpare returns a copy of votes with spare memory behind the list and
// behind each ballot, which belongs to the caller, too.
func withSpare(votes [][]int) [][]int {
	spare := make([][]int, 0, len(votes)+1)
	for _, p := range votes {
		spare = append(spare, append(slices.Clone(p), 77, 78)[:len(p)])
	}
	return append(spare, []int{79})[:len(votes)]
}

// whole returns a list of ballots with all its spare memory, as a copy.
func whole(votes [][]int) [][]int {
	var l [][]int
	for _, p := range votes[:len(votes)+1] {
		l = append(l, slices.Clone(p[:cap(p)]))
	}
	return l
}

func TestArgumentsStayAsTheyAre(t *testing.T) {
	for _, votes := range wild() {
		votes = withSpare(votes)
		was := whole(votes)
		call(votes)
		if !slices.EqualFunc(whole(votes), was, slices.Equal) {
			t.Errorf("%v became %v", was, whole(votes))
		}
	}
}

// fill overwrites the memory of a slice, with its spare capacity.
func fill(l []int, x int) {
	l = l[:cap(l)]
	for i := range l {
		l[i] = x
	}
}

func TestWinnersReturnsNewMemory(t *testing.T) {
	for _, c := range examples() {
		for i, rule := range everyRule() {
			votes := withSpare(c.votes)
			was := whole(votes)
			l, _ := rules.Winners(rule, c.n, votes)
			again, _ := rules.Winners(rule, c.n, votes)
			fill(l, -1)
			third, _ := rules.Winners(rule, c.n, votes)
			if !slices.Equal(again, third) || !slices.EqualFunc(whole(votes), was, slices.Equal) {
				t.Fatalf("%s: Winners by rule %d depends on an earlier result", c.name, rule)
			}
			for _, p := range votes {
				fill(p, -2)
			}
			if !slices.Equal(again, c.winners[i]) {
				t.Fatalf("%s: Winners by rule %d shares memory with its argument", c.name, rule)
			}
		}
	}
}

func TestErrorsComeWithZeroValues(t *testing.T) {
	for _, votes := range wild() {
		for _, rule := range numbers() {
			for _, n := range numbers() {
				if l, e := rules.Winners(rule, n, votes); (e == api.OK) != (len(l) > 0) {
					t.Errorf("Winners(%d, %d, %v) = %v, %d", rule, n, votes, l, e)
				}
				if x, e := rules.Sole(rule, n, votes); e != api.OK && x != 0 {
					t.Errorf("Sole(%d, %d, %v) = %d, %d", rule, n, votes, x, e)
				}
			}
		}
	}
}

func TestNilIsAnEmptyList(t *testing.T) {
	pairs := [][2][][]int{{nil, {}}, {{nil}, {{}}}, {{{0}, nil}, {{0}, {}}}}
	for _, pair := range pairs {
		for _, rule := range numbers() {
			for _, n := range numbers() {
				a, e := rules.Winners(rule, n, pair[0])
				if b, f := rules.Winners(rule, n, pair[1]); !slices.Equal(a, b) || e != f {
					t.Errorf("Winners(%d, %d) of a nil list = %v, %d; of an empty one: %v, %d", rule, n, a, e, b, f)
				}
				x, e := rules.Sole(rule, n, pair[0])
				if y, f := rules.Sole(rule, n, pair[1]); x != y || e != f {
					t.Errorf("Sole(%d, %d) of a nil list = %d, %d; of an empty one: %d, %d", rule, n, x, e, y, f)
				}
			}
		}
	}
}
