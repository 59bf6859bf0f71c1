package peak_test

import (
	"math"
	"math/rand"
	"slices"
	"testing"

	"feathermark/api"
	"feathermark/order"
	"feathermark/peak"
	"feathermark/tally"
)

// times returns k ballots like this one.
func times(k int, ballot ...int) [][]int {
	var votes [][]int
	for range k {
		votes = append(votes, slices.Clone(ballot))
	}
	return votes
}

func TestAlong(t *testing.T) {
	tests := []struct {
		name    string
		line, p []int
		peaked  bool
	}{
		{"one alternative", []int{0}, []int{0}, true},
		{"two", []int{0, 1}, []int{0, 1}, true},
		{"two, the other way", []int{0, 1}, []int{1, 0}, true},
		{"the line itself", []int{0, 1, 2}, []int{0, 1, 2}, true},
		{"the line backwards", []int{0, 1, 2}, []int{2, 1, 0}, true},
		{"the middle first", []int{0, 1, 2}, []int{1, 2, 0}, true},
		{"the middle first, then the front", []int{0, 1, 2}, []int{1, 0, 2}, true},
		{"the middle last", []int{0, 1, 2}, []int{0, 2, 1}, false},
		{"the middle last, from the end", []int{0, 1, 2}, []int{2, 0, 1}, false},
		{"0 in the middle, and last", []int{1, 0, 2}, []int{1, 2, 0}, false},
		{"0 in the middle, and second", []int{1, 0, 2}, []int{1, 0, 2}, true},
		{"0 in the middle, and first", []int{2, 0, 1}, []int{0, 1, 2}, true},
		{"both sides by turns", []int{0, 1, 2, 3, 4, 5}, []int{2, 3, 1, 4, 0, 5}, true},
		{"one side, then the other", []int{0, 1, 2, 3, 4, 5}, []int{3, 2, 1, 0, 4, 5}, true},
		{"the two ends of four first", []int{0, 1, 2, 3}, []int{0, 3, 1, 2}, false},
		{"a neighbour left out", []int{0, 1, 2, 3}, []int{0, 2, 1, 3}, false},
		{"a neighbour left out behind the peak", []int{0, 1, 2, 3}, []int{1, 3, 2, 0}, false},
		{"a neighbour left out before the peak", []int{0, 1, 2, 3}, []int{2, 0, 1, 3}, false},
		{"the last two exchanged", []int{0, 1, 2, 3, 4, 5}, []int{0, 1, 2, 3, 5, 4}, false},
		{"the first two exchanged", []int{0, 1, 2, 3, 4, 5}, []int{1, 0, 2, 3, 4, 5}, true},
		// Only 4 is last among three, those with 5.
		{"a dip near the end", []int{0, 1, 2, 3, 4, 5}, []int{2, 3, 1, 5, 4, 0}, false},
		{"a mixed line", []int{3, 0, 5, 1, 4, 2}, []int{1, 5, 4, 2, 0, 3}, true},
		{"a mixed line and its numbers", []int{3, 0, 5, 1, 4, 2}, []int{0, 1, 2, 3, 4, 5}, false},
	}
	for _, c := range tests {
		if x, e := peak.Along(c.line, c.p); x != c.peaked || e != api.OK {
			t.Errorf("%s: Along(%v, %v) = %t, %d, want %t", c.name, c.line, c.p, x, e, c.peaked)
		}
	}
}

// lastOfThree tells whether y is behind both x and z in p.
func lastOfThree(p []int, x, y, z int) bool {
	at := slices.Index(p, y)
	return at > slices.Index(p, x) && at > slices.Index(p, z)
}

// along tries all three alternatives in the order of the line, as P23 says it.
func along(line, p []int) bool {
	for i := range line {
		for k := i + 1; k < len(line); k++ {
			for l := k + 1; l < len(line); l++ {
				if lastOfThree(p, line[i], line[k], line[l]) {
					return false
				}
			}
		}
	}
	return true
}

func TestAlongOfAllOrders(t *testing.T) {
	for n := 1; n <= 6; n++ {
		orders, _ := order.All(n)
		for i, line := range orders {
			// 720 lines times 720 orders would take long.
			if n == 6 && i%7 != 0 {
				continue
			}
			peaked := 0
			for _, p := range orders {
				want := along(line, p)
				if x, e := peak.Along(line, p); x != want || e != api.OK {
					t.Fatalf("Along(%v, %v) = %t, %d, want %t", line, p, x, e, want)
				}
				if want {
					peaked++
				}
			}
			// Each single-peaked order is made from its end: the next one is
			// either end of what is left.
			if peaked != 1<<(n-1) {
				t.Fatalf("%d orders are single-peaked along %v", peaked, line)
			}
		}
	}
}

// TestAlongFromTheOtherEnd turns the line around, which changes nothing.
func TestAlongFromTheOtherEnd(t *testing.T) {
	for n := 1; n <= 5; n++ {
		orders, _ := order.All(n)
		for _, line := range orders {
			back := slices.Clone(line)
			slices.Reverse(back)
			for _, p := range orders {
				x, _ := peak.Along(line, p)
				if y, e := peak.Along(back, p); x != y || e != api.OK {
					t.Fatalf("Along(%v, %v) = %t, %d, but %t along %v", back, p, y, e, x, line)
				}
			}
		}
	}
}

func TestAll(t *testing.T) {
	six := []int{0, 1, 2, 3, 4, 5}
	tests := []struct {
		name   string
		line   []int
		votes  [][]int
		peaked bool
	}{
		{"the chapter's", []int{0, 1, 2}, [][]int{{0, 1, 2}, {1, 2, 0}, {2, 1, 0}}, true},
		{"no ballots", []int{0, 1, 2}, nil, true},
		{"no ballots of one alternative", []int{0}, nil, true},
		{"one alternative", []int{0}, times(30, 0), true},
		{"two alternatives", []int{1, 0}, slices.Concat(times(15, 0, 1), times(15, 1, 0)), true},
		{"one ballot", six, [][]int{{3, 4, 2, 5, 1, 0}}, true},
		{"one ballot that is not", six, [][]int{{3, 4, 2, 5, 0, 1}}, false},
		{"only the first one is not", []int{0, 1, 2}, [][]int{{0, 2, 1}, {0, 1, 2}, {2, 1, 0}}, false},
		{"only the middle one is not", []int{0, 1, 2}, [][]int{{0, 1, 2}, {2, 0, 1}, {2, 1, 0}}, false},
		{"only the last one is not", []int{0, 1, 2}, [][]int{{0, 1, 2}, {2, 1, 0}, {2, 0, 1}}, false},
		{"only the last one of 30 is not", six, slices.Concat(times(29, six...), times(1, 0, 1, 2, 3, 5, 4)), false},
		{"30 ballots", six, times(30, 5, 4, 3, 2, 1, 0), true},
		{"a cycle", []int{0, 1, 2}, [][]int{{0, 1, 2}, {1, 2, 0}, {2, 0, 1}}, false},
		{"a mixed line", []int{2, 0, 3, 1}, [][]int{{0, 2, 3, 1}, {3, 1, 0, 2}, {1, 3, 0, 2}}, true},
	}
	for _, c := range tests {
		if x, e := peak.All(c.line, c.votes); x != c.peaked || e != api.OK {
			t.Errorf("%s: All(%v, %v) = %t, %d, want %t", c.name, c.line, c.votes, x, e, c.peaked)
		}
	}
}

// someLines returns all lines of up to 4 alternatives, or some longer ones.
func someLines(n int) [][]int {
	lines, _ := order.All(n)
	if n <= 4 {
		return lines
	}
	var some [][]int
	for i := 0; i < len(lines); i += 23 {
		some = append(some, lines[i])
	}
	return some
}

// peakedOrders returns all orders that are single-peaked along the line.
func peakedOrders(line []int) [][]int {
	orders, _ := order.All(len(line))
	return slices.DeleteFunc(orders, func(p []int) bool {
		return !along(line, p)
	})
}

// manyVotes returns votes by chance, but the same ones at each run: of each
// number of ballots, one of only these orders, and one in which the last
// ballot may be any order.
func manyVotes(n int, orders [][]int, chance *rand.Rand) [][][]int {
	var all [][][]int
	for k := range 31 {
		var votes [][]int
		for range k {
			votes = append(votes, orders[chance.Intn(len(orders))])
		}
		all = append(all, votes)
		if k > 0 {
			all = append(all, append(slices.Clone(votes[1:]), chance.Perm(n)))
		}
	}
	return all
}

func TestAllOfManyVotes(t *testing.T) {
	for n := 1; n <= 6; n++ {
		chance := rand.New(rand.NewSource(int64(n)))
		count := map[bool]int{}
		for _, line := range someLines(n) {
			for _, votes := range manyVotes(n, peakedOrders(line), chance) {
				want := true
				for _, p := range votes {
					want = want && along(line, p)
				}
				count[want]++
				if x, e := peak.All(line, votes); x != want || e != api.OK {
					t.Fatalf("All(%v, %v) = %t, %d, want %t", line, votes, x, e, want)
				}
			}
		}
		if count[true] == 0 || n > 2 && count[false] == 0 {
			t.Errorf("%d alternatives: results %v", n, count)
		}
	}
}

// example is a line, a vote, and the median of the most preferred
// alternatives.
type example struct {
	name   string
	line   []int
	votes  [][]int
	middle int
}

func examples() []example {
	three, six := []int{0, 1, 2}, []int{0, 1, 2, 3, 4, 5}
	return []example{
		{"the chapter's", three, [][]int{{0, 1, 2}, {1, 2, 0}, {2, 1, 0}}, 1},
		{"one alternative", []int{0}, times(30, 0), 0},
		{"one ballot", six, [][]int{{4, 3, 5, 2, 1, 0}}, 4},
		{"two alternatives", []int{0, 1}, [][]int{{1, 0}, {0, 1}, {1, 0}}, 1},
		{"a tie", []int{0, 1}, [][]int{{1, 0}, {0, 1}}, 0},
		{"a tie, from the other end", []int{1, 0}, [][]int{{1, 0}, {0, 1}}, 1},
		{"a tie of both ends", three, [][]int{{0, 1, 2}, {2, 1, 0}}, 0},
		{"a tie of both ends, from the other end", []int{2, 1, 0}, [][]int{{0, 1, 2}, {2, 1, 0}}, 2},
		{"a tie of 30", six, slices.Concat(times(15, 5, 4, 3, 2, 1, 0), times(15, 4, 5, 3, 2, 1, 0)), 4},
		{"one more than a tie", six, slices.Concat(times(16, 5, 4, 3, 2, 1, 0), times(14, 0, 1, 2, 3, 4, 5)), 5},
		{"one less than a tie", six, slices.Concat(times(14, 5, 4, 3, 2, 1, 0), times(16, 0, 1, 2, 3, 4, 5)), 0},
		{"the middle two are the same", three, [][]int{{2, 1, 0}, {1, 0, 2}, {0, 1, 2}, {1, 2, 0}}, 1},
		// It counts how often an alternative is first, not that it is.
		{"most at one end", three, [][]int{{2, 1, 0}, {0, 1, 2}, {2, 1, 0}, {1, 0, 2}, {2, 1, 0}}, 2},
		{"most at the front", three, [][]int{{0, 1, 2}, {0, 1, 2}, {0, 1, 2}, {1, 0, 2}, {2, 1, 0}}, 0},
		// 0 has the most first places, but it isn't the middle one.
		{"not the most first places", three, slices.Concat(times(3, 0, 1, 2), times(2, 1, 2, 0), times(2, 2, 1, 0)), 1},
		// The line tells what is in the middle, not the numbers.
		{"0 in the middle", []int{1, 0, 2}, [][]int{{1, 0, 2}, {0, 1, 2}, {2, 0, 1}}, 0},
		{"a mixed line", []int{3, 0, 5, 1, 4, 2}, [][]int{{2, 4, 1, 5, 0, 3}, {3, 0, 5, 1, 4, 2}, {5, 0, 1, 4, 3, 2}}, 5},
		{"a mixed line, an even number", []int{3, 0, 5, 1, 4, 2}, [][]int{{2, 4, 1, 5, 0, 3}, {4, 2, 1, 5, 0, 3}, {3, 0, 5, 1, 4, 2}, {5, 0, 1, 4, 3, 2}}, 5},
		// Nobody likes 1 to 4 most.
		{"both ends only", six, slices.Concat(times(2, 0, 1, 2, 3, 4, 5), times(3, 5, 4, 3, 2, 1, 0)), 5},
	}
}

func TestMiddle(t *testing.T) {
	for _, c := range examples() {
		if x, e := peak.Middle(c.line, c.votes); x != c.middle || e != api.OK {
			t.Errorf("%s: Middle(%v, %v) = %d, %d, want %d", c.name, c.line, c.votes, x, e, c.middle)
		}
	}
}

// median sorts the first places of all ballots along the line, as P25 says it.
func median(line []int, votes [][]int) (int, api.Errno) {
	var at []int
	for _, p := range votes {
		if !along(line, p) {
			return 0, api.ErrForm
		}
		at = append(at, slices.Index(line, p[0]))
	}
	if len(at) == 0 {
		return 0, api.ErrNone
	}
	slices.Sort(at)
	if len(at)%2 == 1 {
		return line[at[len(at)/2]], api.OK
	}
	return line[min(at[len(at)/2-1], at[len(at)/2])], api.OK
}

func TestMiddleOfManyVotes(t *testing.T) {
	for n := 1; n <= 6; n++ {
		chance := rand.New(rand.NewSource(int64(10 + n)))
		count := map[api.Errno]int{}
		for _, line := range someLines(n) {
			for _, votes := range manyVotes(n, peakedOrders(line), chance) {
				want, f := median(line, votes)
				count[f]++
				if x, e := peak.Middle(line, votes); x != want || e != f {
					t.Fatalf("Middle(%v, %v) = %d, %d, want %d, %d", line, votes, x, e, want, f)
				}
			}
		}
		if count[api.OK] == 0 || count[api.ErrNone] == 0 || n > 2 && count[api.ErrForm] == 0 {
			t.Errorf("%d alternatives: errors %v", n, count)
		}
	}
}

// TestMiddleBeatsOthers holds the median against the Condorcet winner: of an
// odd number of ballots, they are the same.
func TestMiddleBeatsOthers(t *testing.T) {
	for n := 1; n <= 6; n++ {
		chance := rand.New(rand.NewSource(int64(20 + n)))
		for _, line := range someLines(n) {
			for _, votes := range manyVotes(n, peakedOrders(line), chance) {
				x, e := peak.Middle(line, votes)
				if e != api.OK || len(votes)%2 == 0 {
					continue
				}
				if y, e := tally.Beater(n, votes); x != y || e != api.OK {
					t.Fatalf("Middle(%v, %v) = %d, but Beater returns %d, %d", line, votes, x, y, e)
				}
			}
		}
	}
}

// TestNobodyGains lets each voter of small votes report any other order: the
// median is never one that the voter likes better.
func TestNobodyGains(t *testing.T) {
	for _, line := range [][]int{{0}, {1, 0}, {1, 2, 0}, {2, 0, 3, 1}} {
		orders := peakedOrders(line)
		for _, p := range orders {
			for _, q := range orders {
				for _, own := range orders {
					checkNoGain(t, line, [][]int{p, q, own}, orders)
				}
			}
		}
	}
}

// checkNoGain lets the last voter report other orders.
func checkNoGain(t *testing.T, line []int, votes, orders [][]int) {
	own := votes[len(votes)-1]
	honest, _ := peak.Middle(line, votes)
	for _, said := range orders {
		other := append(slices.Clone(votes[:len(votes)-1]), said)
		x, _ := peak.Middle(line, other)
		if slices.Index(own, x) < slices.Index(own, honest) {
			t.Fatalf("Middle(%v, %v) = %d, but with %v instead of the last ballot it is %d", line, votes, honest, said, x)
		}
	}
}

// renamed returns p with alternative x named names[x].
func renamed(p, names []int) []int {
	var l []int
	for _, x := range p {
		l = append(l, names[x])
	}
	return l
}

// TestNames holds the results against those of the same vote with other names
// of the alternatives, and with the ballots in another order.
func TestNames(t *testing.T) {
	for n := 1; n <= 4; n++ {
		chance := rand.New(rand.NewSource(int64(30 + n)))
		line := chance.Perm(n)
		orders, _ := order.All(n)
		for _, votes := range manyVotes(n, peakedOrders(line), chance) {
			x, e := peak.Middle(line, votes)
			for _, names := range orders {
				var other [][]int
				for _, i := range chance.Perm(len(votes)) {
					other = append(other, renamed(votes[i], names))
				}
				want := 0
				if e == api.OK {
					want = names[x]
				}
				if y, f := peak.Middle(renamed(line, names), other); y != want || f != e {
					t.Fatalf("Middle(%v, %v) = %d, %d, want %d, %d", renamed(line, names), other, y, f, want, e)
				}
			}
		}
	}
}

// rejected is a line and an order or a vote, and the error that they cause.
type rejected struct {
	name  string
	line  []int
	votes [][]int
	e     api.Errno
}

// wrongLines are lines that all functions reject, whatever the ballots.
func wrongLines() []rejected {
	return []rejected{
		{"nil", nil, nil, api.ErrArg},
		{"empty", []int{}, nil, api.ErrArg},
		{"7 alternatives", []int{0, 1, 2, 3, 4, 5, 6}, nil, api.ErrArg},
		{"7 that are no order", make([]int, 7), nil, api.ErrArg},
		{"1000 alternatives", make([]int, 1000), nil, api.ErrArg},
		{"numbered from 1", []int{1}, nil, api.ErrForm},
		{"one twice", []int{0, 0}, nil, api.ErrForm},
		{"one left out", []int{0, 1, 3}, nil, api.ErrForm},
		{"a negative one", []int{0, -1, 1}, nil, api.ErrForm},
		{"the sixth one twice", []int{0, 1, 2, 3, 4, 4}, nil, api.ErrForm},
		{"a great one", []int{0, math.MaxInt}, nil, api.ErrForm},
		{"a very small one", []int{math.MinInt, 0}, nil, api.ErrForm},
	}
}

// wrongOrders are orders that are not of the alternatives of the line.
func wrongOrders() []rejected {
	three := []int{0, 1, 2}
	return []rejected{
		{"nil", three, [][]int{nil}, api.ErrForm},
		{"empty", []int{0}, [][]int{{}}, api.ErrForm},
		{"short", three, [][]int{{0, 1}}, api.ErrForm},
		{"long", three, [][]int{{0, 1, 2, 3}}, api.ErrForm},
		{"7 alternatives", three, [][]int{{0, 1, 2, 3, 4, 5, 6}}, api.ErrForm},
		{"one twice", three, [][]int{{0, 1, 1}}, api.ErrForm},
		{"one left out", three, [][]int{{0, 1, 3}}, api.ErrForm},
		{"a negative one", three, [][]int{{-1, 0, 1}}, api.ErrForm},
		{"a great one", three, [][]int{{0, 1, math.MaxInt}}, api.ErrForm},
		{"a very small one", three, [][]int{{0, 1, math.MinInt}}, api.ErrForm},
		{"1000 alternatives", three, [][]int{make([]int, 1000)}, api.ErrForm},
	}
}

// wrongVotes are votes that All and Middle reject.
func wrongVotes() []rejected {
	three := []int{0, 1, 2}
	return append(wrongOrders(),
		rejected{"31 ballots", three, times(31, 0, 1, 2), api.ErrLarge},
		rejected{"31 ballots that are not single-peaked", three, times(31, 0, 2, 1), api.ErrLarge},
		rejected{"31 ballots that are no orders", three, make([][]int, 31), api.ErrLarge},
		rejected{"1000 ballots", []int{0}, make([][]int, 1000), api.ErrLarge},
		rejected{"the last one of 30 is no order", three, append(times(29, 0, 1, 2), []int{0, 1}), api.ErrForm},
		// A ballot that is not single-peaked doesn't hide one that is no order.
		rejected{"not single-peaked, then no order", three, [][]int{{0, 2, 1}, {0, 0, 1}}, api.ErrForm},
	)
}

func TestWrongLines(t *testing.T) {
	orders := [][]int{nil, {0}, {0, 1}, {0, 0}, {0, 1, 2}, {0, 1, 2, 3, 4, 5, 6}, make([]int, 1000)}
	votes := [][][]int{nil, {{0}}, {{0, 1}, {1, 0}}, {{0, 2, 1}}, {nil}, make([][]int, 31), times(31, 0, 1)}
	for _, c := range wrongLines() {
		for _, p := range append(orders, c.line) {
			if x, e := peak.Along(c.line, p); x || e != c.e {
				t.Errorf("%s: Along(%v, %v) = %t, %d, want %d", c.name, c.line, p, x, e, c.e)
			}
		}
		for _, v := range append(votes, [][]int{c.line}) {
			if x, e := peak.All(c.line, v); x || e != c.e {
				t.Errorf("%s: All(%v, %v) = %t, %d, want %d", c.name, c.line, v, x, e, c.e)
			}
			if x, e := peak.Middle(c.line, v); x != 0 || e != c.e {
				t.Errorf("%s: Middle(%v, %v) = %d, %d, want %d", c.name, c.line, v, x, e, c.e)
			}
		}
	}
}

func TestWrongOrders(t *testing.T) {
	for _, c := range wrongOrders() {
		if x, e := peak.Along(c.line, c.votes[0]); x || e != c.e {
			t.Errorf("%s: Along(%v, %v) = %t, %d, want %d", c.name, c.line, c.votes[0], x, e, c.e)
		}
	}
}

func TestWrongVotes(t *testing.T) {
	for _, c := range wrongVotes() {
		if x, e := peak.All(c.line, c.votes); x || e != c.e {
			t.Errorf("%s: All(%v, %v) = %t, %d, want %d", c.name, c.line, c.votes, x, e, c.e)
		}
		if x, e := peak.Middle(c.line, c.votes); x != 0 || e != c.e {
			t.Errorf("%s: Middle(%v, %v) = %d, %d, want %d", c.name, c.line, c.votes, x, e, c.e)
		}
	}
}

// TestMiddleWithoutAResult tries votes that are valid but have no median.
func TestMiddleWithoutAResult(t *testing.T) {
	tests := []rejected{
		{"not single-peaked", []int{0, 1, 2}, [][]int{{0, 2, 1}}, api.ErrForm},
		{"the last one is not", []int{0, 1, 2}, [][]int{{0, 1, 2}, {1, 0, 2}, {2, 0, 1}}, api.ErrForm},
		{"the first one is not", []int{0, 1, 2}, [][]int{{2, 0, 1}, {0, 1, 2}, {1, 0, 2}}, api.ErrForm},
		{"the last one of 30 is not", []int{0, 1, 2, 3}, append(times(29, 1, 2, 3, 0), []int{1, 3, 2, 0}), api.ErrForm},
		{"no ballots", []int{0, 1, 2}, nil, api.ErrNone},
		{"an empty list of ballots", []int{0, 1, 2}, [][]int{}, api.ErrNone},
		{"no ballots of one alternative", []int{0}, nil, api.ErrNone},
		{"no ballots of the most alternatives", []int{5, 0, 4, 1, 3, 2}, nil, api.ErrNone},
	}
	for _, c := range tests {
		if x, e := peak.Middle(c.line, c.votes); x != 0 || e != c.e {
			t.Errorf("%s: Middle(%v, %v) = %d, %d, want %d", c.name, c.line, c.votes, x, e, c.e)
		}
	}
}
