package rules_test

import (
	"math"
	"math/rand"
	"slices"
	"testing"

	"feathermark/api"
	"feathermark/order"
	"feathermark/rules"
	"feathermark/tally"
)

// times returns k ballots like this one.
func times(k int, ballot ...int) [][]int {
	var votes [][]int
	for range k {
		votes = append(votes, slices.Clone(ballot))
	}
	return votes
}

// votesOf returns all votes of up to k ballots, each of n alternatives.
func votesOf(n, k int) [][][]int {
	orders, _ := order.All(n)
	all := [][][]int{nil}
	last := all
	for range k {
		var longer [][][]int
		for _, votes := range last {
			for _, p := range orders {
				longer = append(longer, append(slices.Clone(votes), p))
			}
		}
		all = append(all, longer...)
		last = longer
	}
	return all
}

// manyVotes returns many votes of n alternatives: all small ones, and large
// ones by chance, but the same ones at each run.
func manyVotes(n int) [][][]int {
	all := votesOf(n, []int{0, 5, 5, 4, 3, 2, 1}[n])
	orders, _ := order.All(n)
	chance := rand.New(rand.NewSource(int64(n)))
	for i := range 600 {
		var votes [][]int
		for range i%30 + 1 {
			votes = append(votes, orders[chance.Intn(len(orders))])
		}
		all = append(all, votes)
	}
	return all
}

// everyRule returns the numbers of the rules, as the document lists them.
func everyRule() []int {
	return []int{1, 2, 3, 4, 5}
}

// example is a vote, and its winners by the rules 1 to 5.
type example struct {
	name    string
	n       int
	votes   [][]int
	winners [5][]int
}

func examples() []example {
	return []example{
		{"the chapter's", 2, [][]int{{0, 1}, {0, 1}, {1, 0}},
			[5][]int{{0}, {0}, {0}, {0}, {0}}},
		{"one alternative", 1, times(3, 0),
			[5][]int{{0}, {0}, {0}, {0}, {0}}},
		{"one alternative, no ballots", 1, nil,
			[5][]int{{0}, {0}, {0}, {0}, {0}}},
		{"no ballots", 3, nil,
			[5][]int{{0, 1, 2}, {0, 1, 2}, {0, 1, 2}, {0, 1, 2}, {0}}},
		{"no ballots of the most alternatives", 6, nil,
			[5][]int{{0, 1, 2, 3, 4, 5}, {0, 1, 2, 3, 4, 5}, {0, 1, 2, 3, 4, 5}, {0, 1, 2, 3, 4, 5}, {0}}},
		{"one ballot", 6, [][]int{{3, 5, 1, 0, 2, 4}},
			[5][]int{{3}, {3}, {3}, {3}, {3}}},
		{"a tie of two", 2, [][]int{{0, 1}, {1, 0}},
			[5][]int{{0, 1}, {0, 1}, {0, 1}, {0, 1}, {0}}},
		{"a cycle", 3, [][]int{{0, 1, 2}, {1, 2, 0}, {2, 0, 1}},
			[5][]int{{0, 1, 2}, {0, 1, 2}, {0, 1, 2}, {0, 1, 2}, {0}}},
		// 3 is out with 4 ballots, which go to 2, so that 1 is out next.
		{"the most ballots", 4, slices.Concat(times(12, 0, 1, 2, 3), times(8, 1, 2, 3, 0), times(6, 2, 3, 1, 0), times(4, 3, 2, 1, 0)),
			[5][]int{{0}, {1}, {1}, {1}, {2}}},
		// 2 is out with 4 ballots, which go to 3, so that 1 is out next.
		{"four cities", 4, slices.Concat(times(11, 0, 1, 2, 3), times(7, 1, 2, 3, 0), times(4, 2, 3, 1, 0), times(5, 3, 2, 1, 0)),
			[5][]int{{0}, {1}, {1}, {1}, {3}}},
		// 0 has the most points, although 1 beats both others.
		{"points against duels", 3, slices.Concat(times(3, 1, 0, 2), times(2, 0, 2, 1)),
			[5][]int{{1}, {0}, {1}, {1}, {1}}},
		// In the cycle of 0, 1 and 2, each defeat is greater than the ones of 3,
		// which is beaten by all.
		{"the worst against duels", 4, slices.Concat(
			times(3, 3, 0, 1, 2), times(3, 3, 1, 2, 0), times(3, 3, 2, 0, 1),
			times(4, 0, 1, 2, 3), times(4, 1, 2, 0, 3), times(4, 2, 0, 1, 3)),
			[5][]int{{3}, {0, 1, 2}, {0, 1, 2}, {3}, {0}}},
		// Of 1 and 2, with one ballot each, 2 is out first; then 1.
		{"the last one of several is out", 3, [][]int{{0, 2, 1}, {0, 1, 2}, {1, 2, 0}, {2, 1, 0}},
			[5][]int{{0}, {0, 1, 2}, {0, 1, 2}, {0, 1, 2}, {0}}},
		// With 2 out, 1 has more ballots than 0; with 1 out, 0 would win.
		{"the last one of several decides", 3, [][]int{{0, 1, 2}, {0, 1, 2}, {1, 0, 2}, {1, 0, 2}, {2, 1, 0}, {2, 1, 0}},
			[5][]int{{0, 1, 2}, {1}, {1}, {1}, {1}}},
	}
}

func TestExamples(t *testing.T) {
	for _, c := range examples() {
		for i, rule := range everyRule() {
			if l, e := rules.Winners(rule, c.n, c.votes); !slices.Equal(l, c.winners[i]) || e != api.OK {
				t.Errorf("%s: Winners(%d, %d, %v) = %v, %d, want %v", c.name, rule, c.n, c.votes, l, e, c.winners[i])
			}
		}
	}
}

func TestNamesOfRules(t *testing.T) {
	if names := []int{api.RFirst, api.RPoints, api.RDuels, api.RWorst, api.RRounds}; !slices.Equal(names, everyRule()) {
		t.Errorf("the rules are %v, want %v", names, everyRule())
	}
}

// lead is by how many more ballots x is before y than after it.
func lead(votes [][]int, x, y int) int {
	lead := 0
	for _, p := range votes {
		lead += sign(slices.Index(p, y) - slices.Index(p, x))
	}
	return lead
}

// sign is -1, 0 or 1.
func sign(x int) int {
	return min(1, max(-1, x))
}

// score is what an alternative is measured by, counted from the ballots: the
// more, the better.
func score(rule, n int, votes [][]int, x int) int {
	total := 0
	for _, p := range votes {
		switch {
		case rule == 1 && p[0] == x:
			total++
		case rule == 2:
			total += n - 1 - slices.Index(p, x)
		}
	}
	for y := range n {
		switch rule {
		case 3:
			total += sign(lead(votes, x, y))
		case 4:
			total = min(total, lead(votes, x, y))
		}
	}
	return total
}

// bestOf returns the alternatives that no other one is better than.
func bestOf(rule, n int, votes [][]int) []int {
	var best []int
	for x := range n {
		beaten := false
		for y := range n {
			beaten = beaten || score(rule, n, votes, y) > score(rule, n, votes, x)
		}
		if !beaten {
			best = append(best, x)
		}
	}
	return best
}

func TestScoringRulesOfManyVotes(t *testing.T) {
	for n := 1; n <= 6; n++ {
		for _, votes := range manyVotes(n) {
			for rule := 1; rule <= 4; rule++ {
				want := bestOf(rule, n, votes)
				if l, e := rules.Winners(rule, n, votes); !slices.Equal(l, want) || e != api.OK {
					t.Fatalf("Winners(%d, %d, %v) = %v, %d, want %v", rule, n, votes, l, e, want)
				}
			}
		}
	}
}

// without returns the ballots with x struck off.
func without(votes [][]int, x int) [][]int {
	var shorter [][]int
	for _, p := range votes {
		shorter = append(shorter, slices.DeleteFunc(slices.Clone(p), func(y int) bool { return y == x }))
	}
	return shorter
}

// rounds strikes off one alternative after the other, as P17 says it. It tells
// whether there was ever a choice of several.
func rounds(n int, votes [][]int) (winner int, choice bool) {
	out := make([]bool, n)
	for range n - 1 {
		firsts := make([]int, n)
		for _, p := range votes {
			firsts[p[0]]++
		}
		var last []int
		for k := 0; len(last) == 0; k++ {
			for x := range n {
				if !out[x] && firsts[x] == k {
					last = append(last, x)
				}
			}
		}
		x := slices.Max(last)
		choice = choice || len(last) > 1
		out[x] = true
		votes = without(votes, x)
	}
	return slices.Index(out, false), choice
}

func TestRoundsOfManyVotes(t *testing.T) {
	for n := 1; n <= 6; n++ {
		for _, votes := range manyVotes(n) {
			want, _ := rounds(n, votes)
			if l, e := rules.Winners(5, n, votes); !slices.Equal(l, []int{want}) || e != api.OK {
				t.Fatalf("Winners(5, %d, %v) = %v, %d, want [%d]", n, votes, l, e, want)
			}
		}
	}
}

func TestSole(t *testing.T) {
	for _, c := range examples() {
		for i, rule := range everyRule() {
			want, err := 0, api.ErrTie
			if len(c.winners[i]) == 1 {
				want, err = c.winners[i][0], api.OK
			}
			if x, e := rules.Sole(rule, c.n, c.votes); x != want || e != err {
				t.Errorf("%s: Sole(%d, %d, %v) = %d, %d, want %d, %d", c.name, rule, c.n, c.votes, x, e, want, err)
			}
		}
	}
}

func TestSoleOfManyVotes(t *testing.T) {
	for n := 1; n <= 6; n++ {
		for _, votes := range manyVotes(n) {
			for _, rule := range everyRule() {
				l, _ := rules.Winners(rule, n, votes)
				x, e := rules.Sole(rule, n, votes)
				if len(l) == 1 && (x != l[0] || e != api.OK) || len(l) > 1 && (x != 0 || e != api.ErrTie) {
					t.Fatalf("Sole(%d, %d, %v) = %d, %d, but the winners are %v", rule, n, votes, x, e, l)
				}
			}
		}
	}
}

// rejected are arguments, and the error that they cause.
type rejected struct {
	rule, n int
	votes   [][]int
	e       api.Errno
}

// invalidRules are arguments with a wrong rule, which is found before anything
// else.
func invalidRules() []rejected {
	var l []rejected
	for _, rule := range []int{math.MinInt, -5, -1, 0, 6, 7, 1000, math.MaxInt} {
		l = append(l,
			rejected{rule, 2, [][]int{{0, 1}}, api.ErrArg},
			rejected{rule, 1, nil, api.ErrArg},
			rejected{rule, 0, nil, api.ErrArg},
			rejected{rule, 7, nil, api.ErrArg},
			rejected{rule, 2, times(31, 0, 1), api.ErrArg},
			rejected{rule, 2, [][]int{{0, 0}}, api.ErrArg},
			rejected{rule, 2, [][]int{nil}, api.ErrArg},
		)
	}
	return l
}

// invalidVotes are arguments with this rule and a wrong vote.
func invalidVotes(rule int) []rejected {
	return []rejected{
		{rule, 0, nil, api.ErrArg},
		{rule, 0, [][]int{{}}, api.ErrArg},
		{rule, -1, nil, api.ErrArg},
		{rule, 7, nil, api.ErrArg},
		{rule, 7, [][]int{{0, 1, 2, 3, 4, 5, 6}}, api.ErrArg},
		{rule, 7, times(31, 0), api.ErrArg},
		{rule, 0, times(31, 0), api.ErrArg},
		{rule, 0, [][]int{{5}}, api.ErrArg},
		{rule, math.MinInt, nil, api.ErrArg},
		{rule, math.MaxInt, nil, api.ErrArg},
		{rule, 1, times(31, 0), api.ErrLarge},
		{rule, 3, times(31, 0, 1, 2), api.ErrLarge},
		{rule, 3, times(31, 0, 0, 0), api.ErrLarge},
		{rule, 6, times(1000, 0, 1, 2, 3, 4, 5), api.ErrLarge},
		{rule, 2, make([][]int, 31), api.ErrLarge},
		{rule, 2, make([][]int, 30), api.ErrForm},
		{rule, 1, [][]int{nil}, api.ErrForm},
		{rule, 1, [][]int{{}}, api.ErrForm},
		{rule, 1, [][]int{{1}}, api.ErrForm},
		{rule, 3, [][]int{{0, 1, 3}}, api.ErrForm},
		{rule, 3, [][]int{{0, 1, 1}}, api.ErrForm},
		{rule, 3, [][]int{{0, 1, -1}}, api.ErrForm},
		{rule, 3, [][]int{{0, 1}}, api.ErrForm},
		{rule, 3, [][]int{{0, 1, 2, 3}}, api.ErrForm},
		{rule, 3, [][]int{{0, 1, math.MaxInt}}, api.ErrForm},
		{rule, 3, [][]int{{math.MinInt, 1, 0}}, api.ErrForm},
		{rule, 3, [][]int{{0, 1, 2}, {1, 2}, {2, 0, 1}}, api.ErrForm},
		{rule, 3, append(times(29, 0, 1, 2), []int{0, 2, 2}), api.ErrForm},
	}
}

// invalid are arguments that both functions reject.
func invalid() []rejected {
	l := invalidRules()
	for _, rule := range everyRule() {
		l = append(l, invalidVotes(rule)...)
	}
	return l
}

func TestInvalidArguments(t *testing.T) {
	for _, c := range invalid() {
		if l, e := rules.Winners(c.rule, c.n, c.votes); len(l) != 0 || e != c.e {
			t.Errorf("Winners(%d, %d, %v) = %v, %d, want %d", c.rule, c.n, c.votes, l, e, c.e)
		}
		if x, e := rules.Sole(c.rule, c.n, c.votes); x != 0 || e != c.e {
			t.Errorf("Sole(%d, %d, %v) = %d, %d, want %d", c.rule, c.n, c.votes, x, e, c.e)
		}
	}
}

// TestBeaterWinsDuels holds the two rules of duels against the Condorcet
// winner, which both must choose.
func TestBeaterWinsDuels(t *testing.T) {
	for n := 1; n <= 6; n++ {
		for _, votes := range manyVotes(n) {
			x, e := tally.Beater(n, votes)
			if e != api.OK {
				continue
			}
			for _, rule := range []int{3, 4} {
				if y, e := rules.Sole(rule, n, votes); y != x || e != api.OK {
					t.Fatalf("Sole(%d, %d, %v) = %d, %d, but %d beats all others", rule, n, votes, y, e, x)
				}
			}
		}
	}
}

// TestOrderOfBallots holds the winners against those of the same ballots in
// another order.
func TestOrderOfBallots(t *testing.T) {
	chance := rand.New(rand.NewSource(17))
	for n := 1; n <= 6; n++ {
		for _, votes := range manyVotes(n) {
			other := slices.Clone(votes)
			chance.Shuffle(len(other), func(i, k int) { other[i], other[k] = other[k], other[i] })
			for _, rule := range everyRule() {
				l, _ := rules.Winners(rule, n, votes)
				if m, e := rules.Winners(rule, n, other); !slices.Equal(l, m) || e != api.OK {
					t.Fatalf("Winners(%d, %d, %v) = %v, %d, but %v in another order", rule, n, other, m, e, l)
				}
			}
		}
	}
}

// renamed returns the list with each alternative x named names[x].
func renamed(l, names []int) []int {
	var other []int
	for _, x := range l {
		other = append(other, names[x])
	}
	return other
}

// TestNames holds the winners against those of the same ballots with other
// names of the alternatives. Elimination goes by names where it has a choice.
func TestNames(t *testing.T) {
	chance := rand.New(rand.NewSource(18))
	for n := 1; n <= 6; n++ {
		for _, votes := range manyVotes(n) {
			names := chance.Perm(n)
			var other [][]int
			for _, p := range votes {
				other = append(other, renamed(p, names))
			}
			_, choice := rounds(n, votes)
			for _, rule := range everyRule() {
				if rule == 5 && choice {
					continue
				}
				l, _ := rules.Winners(rule, n, votes)
				want := slices.Sorted(slices.Values(renamed(l, names)))
				if m, e := rules.Winners(rule, n, other); !slices.Equal(m, want) || e != api.OK {
					t.Fatalf("Winners(%d, %d, %v) = %v, %d, want %v", rule, n, other, m, e, want)
				}
			}
		}
	}
}
