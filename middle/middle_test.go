package middle_test

import (
	"math"
	"math/rand"
	"slices"
	"testing"

	"feathermark/api"
	"feathermark/middle"
	"feathermark/order"
	"feathermark/tally"
)

// times returns k ballots like this one.
func times(k int, ballot ...int) [][]int {
	var votes [][]int
	for range k {
		votes = append(votes, slices.Clone(ballot))
	}
	return votes
}

// votesOf returns all votes of up to k ballots, each of n alternatives.
func votesOf(n, k int) [][][]int {
	orders, _ := order.All(n)
	all := [][][]int{nil}
	last := all
	for range k {
		var longer [][][]int
		for _, votes := range last {
			for _, p := range orders {
				longer = append(longer, append(slices.Clone(votes), p))
			}
		}
		all = append(all, longer...)
		last = longer
	}
	return all
}

// manyVotes returns many votes of n alternatives: all small ones, and large
// ones by chance, but the same ones at each run.
func manyVotes(n int) [][][]int {
	all := votesOf(n, []int{0, 5, 5, 3, 2, 1, 0}[n])
	orders, _ := order.All(n)
	chance := rand.New(rand.NewSource(int64(n)))
	for i := range 90 {
		var votes [][]int
		for range i%30 + 1 {
			votes = append(votes, orders[chance.Intn(len(orders))])
		}
		all = append(all, votes)
	}
	return all
}

// distance counts, from the ballots, how often p and a ballot rank a pair
// differently.
func distance(votes [][]int, p []int) int {
	count := 0
	for _, q := range votes {
		for x := range p {
			for y := range x {
				if (slices.Index(p, x) < slices.Index(p, y)) != (slices.Index(q, x) < slices.Index(q, y)) {
					count++
				}
			}
		}
	}
	return count
}

func TestFar(t *testing.T) {
	tests := []struct {
		name  string
		n     int
		votes [][]int
		p     []int
		far   int
	}{
		{"the chapter's", 3, [][]int{{0, 1, 2}, {0, 1, 2}, {2, 1, 0}}, []int{0, 1, 2}, 3},
		{"the chapter's, reversed", 3, [][]int{{0, 1, 2}, {0, 1, 2}, {2, 1, 0}}, []int{2, 1, 0}, 6},
		{"no ballots", 3, nil, []int{2, 0, 1}, 0},
		{"no ballots of the most alternatives", 6, nil, []int{5, 4, 3, 2, 1, 0}, 0},
		{"one alternative", 1, times(30, 0), []int{0}, 0},
		{"the only ballot", 4, [][]int{{2, 0, 3, 1}}, []int{2, 0, 3, 1}, 0},
		{"one exchange", 4, [][]int{{2, 0, 3, 1}}, []int{2, 3, 0, 1}, 1},
		{"two exchanges", 3, [][]int{{1, 2, 0}}, []int{0, 1, 2}, 2},
		{"a ballot counts each time", 2, times(7, 0, 1), []int{1, 0}, 7},
		{"a cycle", 3, [][]int{{0, 1, 2}, {1, 2, 0}, {2, 0, 1}}, []int{0, 1, 2}, 4},
		{"the greatest sum", 6, times(30, 0, 1, 2, 3, 4, 5), []int{5, 4, 3, 2, 1, 0}, 450},
	}
	for _, c := range tests {
		if far, e := middle.Far(c.n, c.votes, c.p); far != c.far || e != api.OK {
			t.Errorf("%s: Far(%d, %v, %v) = %d, %d, want %d", c.name, c.n, c.votes, c.p, far, e, c.far)
		}
	}
}

func TestFarOfManyVotes(t *testing.T) {
	for n := 1; n <= 6; n++ {
		orders, _ := order.All(n)
		for i, votes := range manyVotes(n) {
			for k := range min(len(orders), 24) {
				p := orders[(i+k*31)%len(orders)]
				want := distance(votes, p)
				if far, e := middle.Far(n, votes, p); far != want || e != api.OK {
					t.Fatalf("Far(%d, %v, %v) = %d, %d, want %d", n, votes, p, far, e, want)
				}
			}
		}
	}
}

// example is a vote, its best order, and the sum of the distances.
type example struct {
	name  string
	n     int
	votes [][]int
	best  []int
	sum   int
}

func examples() []example {
	return []example{
		{"the chapter's", 3, [][]int{{0, 1, 2}, {0, 1, 2}, {2, 1, 0}}, []int{0, 1, 2}, 3},
		{"no ballots", 3, nil, []int{0, 1, 2}, 0},
		{"no ballots of the most alternatives", 6, nil, []int{0, 1, 2, 3, 4, 5}, 0},
		{"one alternative", 1, times(30, 0), []int{0}, 0},
		{"one alternative, no ballots", 1, nil, []int{0}, 0},
		{"one ballot", 6, [][]int{{3, 5, 1, 0, 2, 4}}, []int{3, 5, 1, 0, 2, 4}, 0},
		{"the last order", 6, times(30, 5, 4, 3, 2, 1, 0), []int{5, 4, 3, 2, 1, 0}, 0},
		{"a tie of two", 2, [][]int{{1, 0}, {0, 1}}, []int{0, 1}, 1},
		{"a majority of two", 2, [][]int{{1, 0}, {0, 1}, {1, 0}}, []int{1, 0}, 1},
		// All six orders are equally far.
		{"an order and its reverse", 3, [][]int{{2, 0, 1}, {1, 0, 2}}, []int{0, 1, 2}, 3},
		// The three ballots are best.
		{"a cycle", 3, [][]int{{2, 0, 1}, {1, 2, 0}, {0, 1, 2}}, []int{0, 1, 2}, 4},
		// The cycle the other way: [0 2 1] is the first one of three.
		{"the other cycle", 3, [][]int{{2, 1, 0}, {1, 0, 2}, {0, 2, 1}}, []int{0, 2, 1}, 4},
		// 0 beats 1 by 5, 1 beats 2 by 3, and 2 beats 0 by 1, which is given up.
		{"a cycle with a weakest link", 3, slices.Concat(times(4, 0, 1, 2), times(2, 1, 2, 0), times(3, 2, 0, 1)), []int{0, 1, 2}, 10},
		// No ballot is the best order.
		{"between the ballots", 4, [][]int{{1, 0, 2, 3}, {0, 2, 1, 3}, {0, 1, 3, 2}}, []int{0, 1, 2, 3}, 3},
		// 0 and 1 tie, as do 2 and 3.
		{"two ties", 4, [][]int{{1, 0, 3, 2}, {0, 1, 2, 3}}, []int{0, 1, 2, 3}, 2},
		// 3 is before all others, which tie.
		{"a tie behind the first", 4, [][]int{{3, 2, 1, 0}, {3, 0, 1, 2}}, []int{3, 0, 1, 2}, 3},
		// 0 has the most points, but 1 beats both others.
		{"points against duels", 3, slices.Concat(times(3, 1, 0, 2), times(2, 0, 2, 1)), []int{1, 0, 2}, 4},
		{"four cities", 4, slices.Concat(times(11, 0, 1, 2, 3), times(7, 1, 2, 3, 0), times(4, 2, 3, 1, 0), times(5, 3, 2, 1, 0)), []int{1, 2, 3, 0}, 56},
	}
}

func TestBest(t *testing.T) {
	for _, c := range examples() {
		if p, sum, e := middle.Best(c.n, c.votes); !slices.Equal(p, c.best) || sum != c.sum || e != api.OK {
			t.Errorf("%s: Best(%d, %v) = %v, %d, %d, want %v, %d", c.name, c.n, c.votes, p, sum, e, c.best, c.sum)
		}
	}
}

// arrangements returns all orders of the alternatives, in no special order.
func arrangements(rest []int) [][]int {
	if len(rest) == 0 {
		return [][]int{nil}
	}
	var all [][]int
	for i := len(rest) - 1; i >= 0; i-- {
		others := slices.Delete(slices.Clone(rest), i, i+1)
		for _, p := range arrangements(others) {
			all = append(all, append([]int{rest[i]}, p...))
		}
	}
	return all
}

// nearest tries all orders, as P20 says it, and tells how many are equally
// near.
func nearest(n int, votes [][]int) (best []int, sum, several int) {
	sum = math.MaxInt
	for _, p := range arrangements([]int{0, 1, 2, 3, 4, 5}[:n]) {
		far := distance(votes, p)
		switch {
		case far < sum:
			best, sum, several = p, far, 1
		case far == sum:
			several++
			if slices.Compare(p, best) < 0 {
				best = p
			}
		}
	}
	return best, sum, several
}

func TestBestOfManyVotes(t *testing.T) {
	for n := 1; n <= 6; n++ {
		only, ties := 0, 0
		for i, votes := range manyVotes(n) {
			if n == 6 && i%3 != 0 {
				continue
			}
			want, far, several := nearest(n, votes)
			if several == 1 {
				only++
			} else {
				ties++
			}
			if p, sum, e := middle.Best(n, votes); !slices.Equal(p, want) || sum != far || e != api.OK {
				t.Fatalf("Best(%d, %v) = %v, %d, %d, want %v, %d", n, votes, p, sum, e, want, far)
			}
		}
		if only == 0 || n > 1 && ties == 0 {
			t.Errorf("%d alternatives: %d votes with one best order, %d with several", n, only, ties)
		}
	}
}

// TestBestIsNearest holds the result of Best against Far of all orders.
func TestBestIsNearest(t *testing.T) {
	for n := 1; n <= 6; n++ {
		orders, _ := order.All(n)
		for _, votes := range manyVotes(n) {
			best, sum, e := middle.Best(n, votes)
			if far, f := middle.Far(n, votes, best); far != sum || e != api.OK || f != api.OK {
				t.Fatalf("Best(%d, %v) = %v, %d, %d, but Far is %d, %d", n, votes, best, sum, e, far, f)
			}
			for _, p := range orders {
				far, _ := middle.Far(n, votes, p)
				if far < sum || far == sum && slices.Compare(p, best) < 0 {
					t.Fatalf("Best(%d, %v) = %v, %d, but %v has %d", n, votes, best, sum, p, far)
				}
			}
		}
	}
}

// TestBeaterIsFirst holds the best order against the Condorcet winner, with
// which every best order begins.
func TestBeaterIsFirst(t *testing.T) {
	for n := 1; n <= 6; n++ {
		for _, votes := range manyVotes(n) {
			x, e := tally.Beater(n, votes)
			if e != api.OK {
				continue
			}
			if p, _, e := middle.Best(n, votes); e != api.OK || p[0] != x {
				t.Fatalf("Best(%d, %v) = %v, %d, but %d beats all others", n, votes, p, e, x)
			}
		}
	}
}

// TestOrderOfBallots holds the results against those of the same ballots in
// another order.
func TestOrderOfBallots(t *testing.T) {
	chance := rand.New(rand.NewSource(19))
	for n := 1; n <= 6; n++ {
		for _, votes := range manyVotes(n) {
			other := slices.Clone(votes)
			chance.Shuffle(len(other), func(i, k int) { other[i], other[k] = other[k], other[i] })
			p, sum, _ := middle.Best(n, votes)
			if q, same, e := middle.Best(n, other); !slices.Equal(p, q) || sum != same || e != api.OK {
				t.Fatalf("Best(%d, %v) = %v, %d, %d, but %v, %d in another order", n, other, q, same, e, p, sum)
			}
		}
	}
}

// renamed returns the order with each alternative x named names[x].
func renamed(p, names []int) []int {
	var other []int
	for _, x := range p {
		other = append(other, names[x])
	}
	return other
}

// TestNames holds the results against those of the same ballots with other
// names of the alternatives. Of several best orders, names choose one.
func TestNames(t *testing.T) {
	chance := rand.New(rand.NewSource(20))
	for n := 1; n <= 5; n++ {
		for _, votes := range manyVotes(n) {
			names := chance.Perm(n)
			var other [][]int
			for _, p := range votes {
				other = append(other, renamed(p, names))
			}
			p, sum, _ := middle.Best(n, votes)
			want := renamed(p, names)
			if far, e := middle.Far(n, other, want); far != sum || e != api.OK {
				t.Fatalf("Far(%d, %v, %v) = %d, %d, want %d", n, other, want, far, e, sum)
			}
			q, same, e := middle.Best(n, other)
			_, _, several := nearest(n, votes)
			if same != sum || several == 1 && !slices.Equal(q, want) || e != api.OK {
				t.Fatalf("Best(%d, %v) = %v, %d, %d, want %v, %d", n, other, q, same, e, want, sum)
			}
		}
	}
}

// rejected are arguments, and the error that they cause.
type rejected struct {
	n     int
	votes [][]int
	e     api.Errno
}

// invalidVotes are arguments that both functions reject.
func invalidVotes() []rejected {
	return []rejected{
		{0, nil, api.ErrArg},
		{0, [][]int{{}}, api.ErrArg},
		{-1, nil, api.ErrArg},
		{7, nil, api.ErrArg},
		{7, [][]int{{0, 1, 2, 3, 4, 5, 6}}, api.ErrArg},
		{7, times(31, 0), api.ErrArg},
		{0, times(31, 0), api.ErrArg},
		{0, [][]int{{5}}, api.ErrArg},
		{math.MinInt, nil, api.ErrArg},
		{math.MaxInt, nil, api.ErrArg},
		{1, times(31, 0), api.ErrLarge},
		{3, times(31, 0, 1, 2), api.ErrLarge},
		{3, times(31, 0, 0, 0), api.ErrLarge},
		{6, times(1000, 0, 1, 2, 3, 4, 5), api.ErrLarge},
		{2, make([][]int, 31), api.ErrLarge},
		{2, make([][]int, 30), api.ErrForm},
		{1, [][]int{nil}, api.ErrForm},
		{1, [][]int{{}}, api.ErrForm},
		{1, [][]int{{1}}, api.ErrForm},
		{3, [][]int{{0, 1, 3}}, api.ErrForm},
		{3, [][]int{{0, 1, 1}}, api.ErrForm},
		{3, [][]int{{0, 1, -1}}, api.ErrForm},
		{3, [][]int{{0, 1}}, api.ErrForm},
		{3, [][]int{{0, 1, 2, 3}}, api.ErrForm},
		{3, [][]int{{0, 1, math.MaxInt}}, api.ErrForm},
		{3, [][]int{{math.MinInt, 1, 0}}, api.ErrForm},
		{3, [][]int{{0, 1, 2}, {1, 2}, {2, 0, 1}}, api.ErrForm},
		{3, append(times(29, 0, 1, 2), []int{0, 2, 2}), api.ErrForm},
	}
}

// TestInvalidVotes gives Far right and wrong orders: the vote's error comes
// first.
func TestInvalidVotes(t *testing.T) {
	orders := [][]int{nil, {}, {0}, {0, 1}, {0, 1, 2}, {0, 0, 0}, {0, 1, 2, 3, 4, 5}, {0, 1, 2, 3, 4, 5, 6}}
	for _, c := range invalidVotes() {
		if p, sum, e := middle.Best(c.n, c.votes); len(p) != 0 || sum != 0 || e != c.e {
			t.Errorf("Best(%d, %v) = %v, %d, %d, want %d", c.n, c.votes, p, sum, e, c.e)
		}
		for _, p := range orders {
			if far, e := middle.Far(c.n, c.votes, p); far != 0 || e != c.e {
				t.Errorf("Far(%d, %v, %v) = %d, %d, want %d", c.n, c.votes, p, far, e, c.e)
			}
		}
	}
}

func TestFarOfInvalidOrders(t *testing.T) {
	tests := []struct {
		n int
		p []int
	}{
		{1, nil},
		{1, []int{}},
		{1, []int{1}},
		{1, []int{-1}},
		{1, []int{0, 1}},
		{2, []int{0}},
		{2, []int{0, 0}},
		{2, []int{1, 1}},
		{2, []int{0, 2}},
		{2, []int{0, 1, 2}},
		{3, nil},
		{3, []int{0, 1}},
		{3, []int{0, 1, 1}},
		{3, []int{0, 1, 3}},
		{3, []int{-1, 0, 1}},
		{3, []int{0, 1, 2, 3}},
		{3, []int{0, math.MaxInt, 1}},
		{3, []int{math.MinInt, 0, 1}},
		{6, []int{0, 1, 2, 3, 4}},
		{6, []int{0, 1, 2, 3, 4, 4}},
		{6, []int{0, 1, 2, 3, 4, 6}},
		{6, []int{0, 1, 2, 3, 4, 5, 6}},
		{6, make([]int, 1000)},
	}
	for _, c := range tests {
		ballot := []int{0, 1, 2, 3, 4, 5}[:c.n]
		for _, votes := range [][][]int{nil, {ballot}, times(30, ballot...)} {
			if far, e := middle.Far(c.n, votes, c.p); far != 0 || e != api.ErrForm {
				t.Errorf("Far(%d, %v, %v) = %d, %d, want %d", c.n, votes, c.p, far, e, api.ErrForm)
			}
		}
	}
}
