package tally_test

import (
	"math"
	"math/rand"
	"slices"
	"testing"

	"feathermark/api"
	"feathermark/order"
	"feathermark/tally"
)

// times returns k ballots like this one.
func times(k int, ballot ...int) [][]int {
	var votes [][]int
	for range k {
		votes = append(votes, slices.Clone(ballot))
	}
	return votes
}

// cycle is the example of the chapter.
func cycle() [][]int {
	return [][]int{{0, 1, 2}, {1, 2, 0}, {2, 0, 1}}
}

// votesOf returns all votes of up to k ballots, each of n alternatives.
func votesOf(n, k int) [][][]int {
	orders, _ := order.All(n)
	all := [][][]int{nil}
	last := all
	for range k {
		var longer [][][]int
		for _, votes := range last {
			for _, p := range orders {
				longer = append(longer, append(slices.Clone(votes), p))
			}
		}
		all = append(all, longer...)
		last = longer
	}
	return all
}

// manyVotes returns many votes of n alternatives: all small ones, and large
// ones by chance, but the same ones at each run.
func manyVotes(n int) [][][]int {
	all := votesOf(n, []int{0, 5, 5, 4, 3, 2, 1}[n])
	orders, _ := order.All(n)
	chance := rand.New(rand.NewSource(int64(n)))
	for i := range 300 {
		var votes [][]int
		for range i%30 + 1 {
			votes = append(votes, orders[chance.Intn(len(orders))])
		}
		all = append(all, votes)
	}
	return all
}

// before counts the ballots that rank x before y.
func before(votes [][]int, x, y int) int {
	count := 0
	for _, p := range votes {
		if slices.Index(p, x) < slices.Index(p, y) {
			count++
		}
	}
	return count
}

// rejected are arguments, and the error that they cause.
type rejected struct {
	n     int
	votes [][]int
	e     api.Errno
}

// invalid are arguments that every function of the package rejects.
func invalid() []rejected {
	return []rejected{
		{0, nil, api.ErrArg},
		{0, [][]int{{}}, api.ErrArg},
		{-1, nil, api.ErrArg},
		{7, nil, api.ErrArg},
		{7, [][]int{{0, 1, 2, 3, 4, 5, 6}}, api.ErrArg},
		{7, times(31, 0, 1, 2, 3, 4, 5, 6), api.ErrArg},
		{0, times(31, 0), api.ErrArg},
		{0, [][]int{{5}}, api.ErrArg},
		{math.MinInt, nil, api.ErrArg},
		{math.MaxInt, nil, api.ErrArg},
		{1, times(31, 0), api.ErrLarge},
		{3, times(31, 0, 1, 2), api.ErrLarge},
		{3, times(31, 0, 0, 0), api.ErrLarge},
		{6, times(1000, 0, 1, 2, 3, 4, 5), api.ErrLarge},
		{2, make([][]int, 31), api.ErrLarge},
		{2, make([][]int, 30), api.ErrForm},
		{1, [][]int{nil}, api.ErrForm},
		{1, [][]int{{}}, api.ErrForm},
		{1, [][]int{{1}}, api.ErrForm},
		{2, cycle(), api.ErrForm},
		{4, cycle(), api.ErrForm},
		{3, [][]int{{0, 1, 3}}, api.ErrForm},
		{3, [][]int{{0, 1, 1}}, api.ErrForm},
		{3, [][]int{{0, 1, -1}}, api.ErrForm},
		{3, [][]int{{0, 1}}, api.ErrForm},
		{3, [][]int{{0, 1, 2, 3}}, api.ErrForm},
		{3, [][]int{{0, 1, math.MaxInt}}, api.ErrForm},
		{3, [][]int{{math.MinInt, 1, 0}}, api.ErrForm},
		{3, [][]int{{9, 1, 2}, {1, 2, 0}, {2, 0, 1}}, api.ErrForm},
		{3, [][]int{{0, 1, 2}, {1, 2}, {2, 0, 1}}, api.ErrForm},
		{3, append(times(29, 0, 1, 2), []int{0, 2, 2}), api.ErrForm},
		{6, [][]int{{0, 1, 2, 3, 4, 5}, {0, 1, 2, 3, 4, 5, 6}}, api.ErrForm},
	}
}

func TestCheck(t *testing.T) {
	for n := 1; n <= 6; n++ {
		for _, votes := range manyVotes(n) {
			if e := tally.Check(n, votes); e != api.OK {
				t.Fatalf("Check(%d, %v) = %d", n, votes, e)
			}
		}
	}
	for _, c := range invalid() {
		if e := tally.Check(c.n, c.votes); e != c.e {
			t.Errorf("Check(%d, %v) = %d, want %d", c.n, c.votes, e, c.e)
		}
	}
}

func TestCheckAtItsLimits(t *testing.T) {
	if e := tally.Check(1, times(30, 0)); e != api.OK {
		t.Errorf("Check of 30 ballots of 1 alternative = %d", e)
	}
	if e := tally.Check(6, times(30, 5, 4, 3, 2, 1, 0)); e != api.OK {
		t.Errorf("Check of 30 ballots of 6 alternatives = %d", e)
	}
	for n := 1; n <= 6; n++ {
		if e := tally.Check(n, nil); e != api.OK {
			t.Errorf("Check(%d, nil) = %d", n, e)
		}
	}
}

// TestCheckOfEachBallot puts a wrong ballot at each place of a vote.
func TestCheckOfEachBallot(t *testing.T) {
	for i := range 30 {
		votes := times(30, 0, 1, 2, 3)
		votes[i] = []int{0, 1, 2, 2}
		if e := tally.Check(4, votes); e != api.ErrForm {
			t.Errorf("Check with a wrong ballot %d = %d", i, e)
		}
	}
}

func TestDuels(t *testing.T) {
	tests := []struct {
		n     int
		votes [][]int
		duels [][]int
	}{
		{1, nil, [][]int{{0}}},
		{1, times(30, 0), [][]int{{0}}},
		{2, nil, [][]int{{0, 0}, {0, 0}}},
		{2, [][]int{{1, 0}}, [][]int{{0, 0}, {1, 0}}},
		{2, times(30, 0, 1), [][]int{{0, 30}, {0, 0}}},
		{3, cycle(), [][]int{{0, 2, 1}, {1, 0, 2}, {2, 1, 0}}},
		{3, [][]int{{0, 1, 2}, {1, 2, 0}, {1, 0, 2}}, [][]int{{0, 1, 2}, {2, 0, 3}, {1, 0, 0}}},
		{4, [][]int{{3, 1, 0, 2}}, [][]int{{0, 0, 1, 0}, {1, 0, 1, 0}, {0, 0, 0, 0}, {1, 1, 1, 0}}},
	}
	for _, c := range tests {
		if l, e := tally.Duels(c.n, c.votes); !slices.EqualFunc(l, c.duels, slices.Equal) || e != api.OK {
			t.Errorf("Duels(%d, %v) = %v, %d, want %v", c.n, c.votes, l, e, c.duels)
		}
	}
}

func TestDuelsOfManyVotes(t *testing.T) {
	for n := 1; n <= 6; n++ {
		for _, votes := range manyVotes(n) {
			duels := make([][]int, n)
			for x := range n {
				for y := range n {
					duels[x] = append(duels[x], before(votes, x, y))
				}
			}
			if l, e := tally.Duels(n, votes); !slices.EqualFunc(l, duels, slices.Equal) || e != api.OK {
				t.Fatalf("Duels(%d, %v) = %v, %d, want %v", n, votes, l, e, duels)
			}
		}
	}
}

func TestFirstsAndPoints(t *testing.T) {
	tests := []struct {
		n              int
		votes          [][]int
		firsts, points []int
	}{
		{1, nil, []int{0}, []int{0}},
		{1, times(30, 0), []int{30}, []int{0}},
		{3, nil, []int{0, 0, 0}, []int{0, 0, 0}},
		{2, [][]int{{1, 0}}, []int{0, 1}, []int{0, 1}},
		{3, cycle(), []int{1, 1, 1}, []int{3, 3, 3}},
		{3, [][]int{{0, 1, 2}, {1, 2, 0}, {1, 0, 2}}, []int{1, 2, 0}, []int{3, 5, 1}},
		{4, [][]int{{3, 1, 0, 2}}, []int{0, 0, 0, 1}, []int{1, 2, 0, 3}},
		{6, times(30, 5, 4, 3, 2, 1, 0), []int{0, 0, 0, 0, 0, 30}, []int{0, 30, 60, 90, 120, 150}},
	}
	for _, c := range tests {
		if l, e := tally.Firsts(c.n, c.votes); !slices.Equal(l, c.firsts) || e != api.OK {
			t.Errorf("Firsts(%d, %v) = %v, %d, want %v", c.n, c.votes, l, e, c.firsts)
		}
		if l, e := tally.Points(c.n, c.votes); !slices.Equal(l, c.points) || e != api.OK {
			t.Errorf("Points(%d, %v) = %v, %d, want %v", c.n, c.votes, l, e, c.points)
		}
	}
}

func TestFirstsAndPointsOfManyVotes(t *testing.T) {
	for n := 1; n <= 6; n++ {
		for _, votes := range manyVotes(n) {
			firsts, points := make([]int, n), make([]int, n)
			for x := range n {
				for _, p := range votes {
					if slices.Index(p, x) == 0 {
						firsts[x]++
					}
				}
				for y := range n {
					points[x] += before(votes, x, y)
				}
			}
			if l, e := tally.Firsts(n, votes); !slices.Equal(l, firsts) || e != api.OK {
				t.Fatalf("Firsts(%d, %v) = %v, %d, want %v", n, votes, l, e, firsts)
			}
			if l, e := tally.Points(n, votes); !slices.Equal(l, points) || e != api.OK {
				t.Fatalf("Points(%d, %v) = %v, %d, want %v", n, votes, l, e, points)
			}
		}
	}
}

func TestBeater(t *testing.T) {
	tests := []struct {
		name  string
		n     int
		votes [][]int
		x     int
		e     api.Errno
	}{
		{"alone, without ballots", 1, nil, 0, api.OK},
		{"alone", 1, times(2, 0), 0, api.OK},
		{"no ballots", 2, nil, 0, api.ErrNone},
		{"no ballots of six", 6, nil, 0, api.ErrNone},
		{"one ballot", 3, [][]int{{2, 0, 1}}, 2, api.OK},
		{"the chapter's cycle", 3, cycle(), 0, api.ErrNone},
		{"half of the ballots", 2, [][]int{{0, 1}, {1, 0}}, 0, api.ErrNone},
		{"one more than half", 2, [][]int{{0, 1}, {1, 0}, {1, 0}}, 1, api.OK},
		{"even with one, beats the other", 3, [][]int{{0, 1, 2}, {1, 0, 2}}, 0, api.ErrNone},
		{"first on the fewest ballots", 3, [][]int{{0, 2, 1}, {0, 2, 1}, {1, 2, 0}, {1, 2, 0}, {2, 0, 1}}, 2, api.OK},
		{"first on no ballot at all", 4, [][]int{{0, 3, 1, 2}, {1, 3, 2, 0}, {2, 3, 0, 1}}, 3, api.OK},
		{"a cycle behind the winner", 4, [][]int{{3, 0, 1, 2}, {3, 1, 2, 0}, {2, 0, 1, 3}}, 3, api.OK},
		{"not the one with most points", 3, append(times(3, 0, 1, 2), times(2, 1, 2, 0)...), 0, api.OK},
		{"full", 6, times(30, 5, 4, 3, 2, 1, 0), 5, api.OK},
		{"full, half against half", 2, append(times(15, 0, 1), times(15, 1, 0)...), 0, api.ErrNone},
		{"full, 16 against 14", 2, append(times(14, 0, 1), times(16, 1, 0)...), 1, api.OK},
	}
	for _, c := range tests {
		if x, e := tally.Beater(c.n, c.votes); x != c.x || e != c.e {
			t.Errorf("%s: Beater(%d, %v) = %d, %d, want %d, %d", c.name, c.n, c.votes, x, e, c.x, c.e)
		}
	}
}

// winner looks for the alternative that beats all others, as P11 says it.
func winner(n int, votes [][]int) (int, api.Errno) {
	for x := range n {
		beaten := 0
		for y := range n {
			if before(votes, x, y) > before(votes, y, x) {
				beaten++
			}
		}
		if beaten == n-1 {
			return x, api.OK
		}
	}
	return 0, api.ErrNone
}

func TestBeaterOfManyVotes(t *testing.T) {
	for n := 1; n <= 6; n++ {
		for _, votes := range manyVotes(n) {
			want, wantErr := winner(n, votes)
			if x, e := tally.Beater(n, votes); x != want || e != wantErr {
				t.Fatalf("Beater(%d, %v) = %d, %d, want %d, %d", n, votes, x, e, want, wantErr)
			}
		}
	}
}

// TestOrderOfBallots holds the counts against those of the same ballots in
// another order.
func TestOrderOfBallots(t *testing.T) {
	for n := 1; n <= 6; n++ {
		for _, votes := range manyVotes(n) {
			back := slices.Clone(votes)
			slices.Reverse(back)
			duels, _ := tally.Duels(n, votes)
			others, _ := tally.Duels(n, back)
			if !slices.EqualFunc(duels, others, slices.Equal) {
				t.Fatalf("Duels(%d, %v) = %v, but %v for the ballots in reverse", n, votes, duels, others)
			}
		}
	}
}
