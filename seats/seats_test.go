package seats_test

import (
	"math"
	"math/big"
	"math/rand"
	"slices"
	"testing"

	"feathermark/api"
	"feathermark/seats"
)

// everyWay returns all ways to share seats.
func everyWay() []int {
	return []int{api.SGreat, api.SOdd, api.SParts}
}

// same returns the votes of n parties with the same number of votes each.
func same(n, votes int) []int {
	return slices.Repeat([]int{votes}, n)
}

// rejected are arguments, and the error that they cause.
type rejected struct {
	name   string
	people []int
	house  int
	e      api.Errno
}

// invalid are arguments that both functions of the package reject.
func invalid() []rejected {
	return []rejected{
		{"nil", nil, 1, api.ErrLarge},
		{"no parties", []int{}, 1, api.ErrLarge},
		{"9 parties", same(9, 1), 1, api.ErrLarge},
		{"1000 parties", same(1000, 1), 1, api.ErrLarge},
		{"no parties, no right house", nil, -1, api.ErrLarge},
		{"9 parties, one below 0", append(same(8, 1), -1), 1, api.ErrLarge},
		{"9 parties without votes", same(9, 0), 1, api.ErrLarge},
		{"9 parties, no right house", same(9, 1), 101, api.ErrLarge},
		{"below 0 votes", []int{-1}, 1, api.ErrArg},
		{"too many votes", []int{1000001}, 1, api.ErrArg},
		{"the fewest votes of all", []int{1, math.MinInt}, 1, api.ErrArg},
		{"the most votes of all", []int{1, math.MaxInt}, 1, api.ErrArg},
		// The sum of these is 0, but each of them is checked first.
		{"votes that cancel out", []int{5, -5}, 1, api.ErrArg},
		{"votes that wrap around to 0", []int{math.MinInt, math.MinInt}, 1, api.ErrArg},
		{"no votes and one below 0", []int{0, 0, -1}, 1, api.ErrArg},
		{"too many votes, no right house", []int{1000001, 0}, 101, api.ErrArg},
		{"no votes", []int{0}, 1, api.ErrNone},
		{"no votes of 8 parties", same(8, 0), 100, api.ErrNone},
		{"no votes and no seats", []int{0, 0}, 0, api.ErrNone},
		{"no votes, a house below 0", []int{0, 0}, -1, api.ErrNone},
		{"no votes, a large house", []int{0, 0}, 101, api.ErrNone},
		{"a house below 0", []int{1}, -1, api.ErrArg},
		{"a large house", []int{1}, 101, api.ErrArg},
		{"a large house of 8 parties", same(8, 1000000), 101, api.ErrArg},
		{"the smallest house of all", []int{1, 2}, math.MinInt, api.ErrArg},
		{"the largest house of all", []int{1, 2}, math.MaxInt, api.ErrArg},
	}
}

func TestCheck(t *testing.T) {
	for _, c := range invalid() {
		if e := seats.Check(c.people, c.house); e != c.e {
			t.Errorf("%s: Check(%v, %d) = %d, want %d", c.name, c.people, c.house, e, c.e)
		}
	}
	for _, c := range examples() {
		if e := seats.Check(c.people, c.house); e != api.OK {
			t.Errorf("%s: Check(%v, %d) = %d", c.name, c.people, c.house, e)
		}
	}
}

func TestCheckAtItsLimits(t *testing.T) {
	for n := 1; n <= 8; n++ {
		for _, votes := range []int{1, 999999, 1000000} {
			for house := range 101 {
				if e := seats.Check(same(n, votes), house); e != api.OK {
					t.Errorf("Check(%v, %d) = %d", same(n, votes), house, e)
				}
			}
		}
	}
}

// TestCheckOfEachParty puts a wrong number of votes at each place, and then
// the only vote at each place.
func TestCheckOfEachParty(t *testing.T) {
	for n := 1; n <= 8; n++ {
		for i := range n {
			for _, wrong := range []int{-1, 1000001} {
				people := same(n, 7)
				people[i] = wrong
				if e := seats.Check(people, 5); e != api.ErrArg {
					t.Errorf("Check(%v, 5) = %d", people, e)
				}
			}
			people := same(n, 0)
			people[i] = 1
			if e := seats.Check(people, 5); e != api.OK {
				t.Errorf("Check(%v, 5) = %d", people, e)
			}
		}
	}
}

// example is a number of seats, and how each of the three ways shares them.
type example struct {
	name   string
	people []int
	house  int
	shares [3][]int
}

// all returns the same share for all three ways.
func all(share ...int) [3][]int {
	return [3][]int{share, share, share}
}

func examples() []example {
	return []example{
		{"the chapter's", []int{6, 3, 1}, 3, all(2, 1, 0)},
		{"one party", []int{7}, 100, all(100)},
		{"one party with one vote", []int{1}, 1, all(1)},
		{"no seats", []int{1, 2, 3}, 0, all(0, 0, 0)},
		{"no seats for one party", []int{1}, 0, all(0)},
		{"one seat", []int{1, 3, 2}, 1, all(0, 1, 0)},
		{"one seat, two firsts", []int{1, 3, 3}, 1, all(0, 1, 0)},
		{"one seat, all the same", []int{1, 1, 1}, 1, all(1, 0, 0)},
		{"two seats, all the same", []int{1, 1, 1}, 2, all(1, 1, 0)},
		{"six seats, all the same", []int{5, 5, 5, 5}, 6, all(2, 2, 1, 1)},
		{"full, all the same", same(8, 1000000), 100, all(13, 13, 13, 13, 12, 12, 12, 12)},
		{"parties without votes", []int{0, 5, 0}, 100, all(0, 100, 0)},
		{"a last party without votes", []int{1, 0}, 1, all(1, 0)},
		{"an even share", []int{99, 1}, 100, all(99, 1)},
		{"very few votes", []int{1, 1000000}, 100, all(0, 100)},
		{"almost the same", []int{999999, 1000000}, 1, all(0, 1)},
		{"almost the same, 99 seats", []int{999999, 1000000}, 99, all(49, 50)},
		{"almost the same, 100 seats", []int{999999, 1000000}, 100, all(50, 50)},
		{"three ways, three results", []int{47000, 16000, 15900, 12000, 6000, 3100}, 10, [3][]int{
			{5, 2, 2, 1, 0, 0}, {4, 2, 2, 1, 1, 0}, {5, 2, 1, 1, 1, 0}}},
		{"SGreat is good to great parties", []int{100000, 80000, 30000, 20000}, 8, [3][]int{
			{4, 3, 1, 0}, {3, 3, 1, 1}, {3, 3, 1, 1}}},
		{"SOdd takes the majority", []int{53000, 24000, 23000}, 7, [3][]int{
			{4, 2, 1}, {3, 2, 2}, {4, 2, 1}}},
		// With one seat more, the last party has one less by SParts.
		{"before a seat is lost", []int{6, 6, 2}, 10, [3][]int{{5, 4, 1}, {5, 4, 1}, {4, 4, 2}}},
		{"after a seat is lost", []int{6, 6, 2}, 11, all(5, 5, 1)},
		// 3 by 3 is as much as 1 by 1, and both quotas exceed a whole one by 1/2.
		{"the first one of a tie", []int{3, 1}, 2, all(2, 0)},
		{"the first one of a tie, the other way around", []int{1, 3}, 2, [3][]int{{0, 2}, {1, 1}, {1, 1}}},
		{"a tie by SGreat", []int{1, 2}, 2, all(1, 1)},
		// The quotients 2.5 and 2 are not the same, nor are 1.67 and 1.
		{"close quotients by SGreat", []int{2, 5}, 2, [3][]int{{0, 2}, {1, 1}, {1, 1}}},
		{"close quotients by SOdd", []int{1, 5}, 2, all(0, 2)},
		{"eight parties", []int{7, 7, 7, 3, 0, 0, 1, 9}, 17, [3][]int{
			{4, 4, 3, 1, 0, 0, 0, 5}, {4, 4, 4, 1, 0, 0, 0, 4}, {4, 4, 4, 1, 0, 0, 0, 4}}},
		// All but one party get one of the 6 remaining seats or had one before.
		{"one remaining seat each", []int{1, 1, 1, 1, 1, 1, 1, 2}, 7, all(1, 1, 1, 1, 1, 1, 0, 1)},
	}
}

func TestShare(t *testing.T) {
	for _, c := range examples() {
		for i, way := range everyWay() {
			if l, e := seats.Share(way, c.people, c.house); !slices.Equal(l, c.shares[i]) || e != api.OK {
				t.Errorf("%s: Share(%d, %v, %d) = %v, %d, want %v", c.name, way, c.people, c.house, l, e, c.shares[i])
			}
		}
	}
}

func TestShareOfWrongVotes(t *testing.T) {
	for _, c := range invalid() {
		for _, way := range everyWay() {
			if l, e := seats.Share(way, c.people, c.house); len(l) != 0 || e != c.e {
				t.Errorf("%s: Share(%d, %v, %d) = %v, %d, want %d", c.name, way, c.people, c.house, l, e, c.e)
			}
		}
	}
}

// TestShareInWrongWays holds that a wrong way comes before all other errors.
func TestShareInWrongWays(t *testing.T) {
	cases := append(invalid(), rejected{"right", []int{1, 2}, 3, api.OK})
	for _, way := range []int{math.MinInt, -1, 0, 4, 5, 1000, math.MaxInt} {
		for _, c := range cases {
			if l, e := seats.Share(way, c.people, c.house); len(l) != 0 || e != api.ErrArg {
				t.Errorf("%s: Share(%d, %v, %d) = %v, %d", c.name, way, c.people, c.house, l, e)
			}
		}
	}
}

// claim is what a party has for one seat: the greatest claims get the seats.
type claim struct {
	party int
	size  *big.Rat
}

// serve returns the shares, increased by one for each of the k greatest
// claims, the first ones of several.
func serve(shares []int, claims []claim, k int) []int {
	slices.SortStableFunc(claims, func(a, b claim) int {
		return b.size.Cmp(a.size)
	})
	for _, c := range claims[:k] {
		shares[c.party]++
	}
	return shares
}

// byDivisors shares the seats as P27 says it, with all quotients sorted at
// once: those of one party decrease, so it's the same as one by one.
func byDivisors(step int, people []int, house int) []int {
	var claims []claim
	for i, votes := range people {
		// Without votes, all quotients are 0, and are never the greatest ones.
		for s := 0; s < house && votes > 0; s++ {
			claims = append(claims, claim{i, big.NewRat(int64(votes), int64(step*s+1))})
		}
	}
	return serve(make([]int, len(people)), claims, house)
}

// byRemainders shares the seats as P28 says it.
func byRemainders(people []int, house int) []int {
	total := 0
	for _, votes := range people {
		total += votes
	}
	var shares []int
	var claims []claim
	remaining := house
	for i, votes := range people {
		quota := big.NewRat(int64(house*votes), int64(total))
		whole := new(big.Int).Quo(quota.Num(), quota.Denom())
		shares = append(shares, int(whole.Int64()))
		remaining -= shares[i]
		claims = append(claims, claim{i, quota.Sub(quota, new(big.Rat).SetInt(whole))})
	}
	return serve(shares, claims, remaining)
}

// expected returns what Share must return.
func expected(way int, people []int, house int) []int {
	switch way {
	case api.SGreat:
		return byDivisors(1, people, house)
	case api.SOdd:
		return byDivisors(2, people, house)
	}
	return byRemainders(people, house)
}

// checkShare holds the three results against what they must be.
func checkShare(t *testing.T, people []int, house int) {
	for _, way := range everyWay() {
		want := expected(way, people, house)
		if l, e := seats.Share(way, people, house); !slices.Equal(l, want) || e != api.OK {
			t.Fatalf("Share(%d, %v, %d) = %v, %d, want %v", way, people, house, l, e, want)
		}
	}
}

// lists returns all lists of n numbers below limit, but the one of zeros.
func lists(n, limit int) [][]int {
	all := [][]int{nil}
	for range n {
		var longer [][]int
		for _, l := range all {
			for x := range limit {
				longer = append(longer, append(slices.Clone(l), x))
			}
		}
		all = longer
	}
	return all[1:]
}

func TestShareOfFewVotes(t *testing.T) {
	for n, limit := range []int{0, 20, 12, 7, 4} {
		if n == 0 {
			continue
		}
		for _, people := range lists(n, limit) {
			for house := range 9 {
				checkShare(t, people, house)
			}
		}
	}
}

// manyVotes returns the votes of parties by chance, but the same ones at each
// run: with few votes there are many ties, with many there are few.
func manyVotes(seed int64) [][]int {
	chance := rand.New(rand.NewSource(seed))
	var all [][]int
	for n := 1; n <= 8; n++ {
		for _, most := range []int{1, 3, 30, 1000, 1000000} {
			for range 4 {
				people := make([]int, n)
				for i := range people {
					people[i] = chance.Intn(most + 1)
				}
				people[chance.Intn(n)] = most
				all = append(all, people)
			}
		}
	}
	return all
}

func TestShareOfManyVotes(t *testing.T) {
	for _, people := range manyVotes(1) {
		for _, house := range []int{0, 1, 2, 3, 7, 16, 50, 99, 100} {
			checkShare(t, people, house)
		}
	}
}

// TestShareIsWhole holds that all seats are assigned, that a party with more
// votes never has fewer seats, and that one without votes has none.
func TestShareIsWhole(t *testing.T) {
	for _, people := range manyVotes(2) {
		for house := range 101 {
			for _, way := range everyWay() {
				l, e := seats.Share(way, people, house)
				if e != api.OK || len(l) != len(people) {
					t.Fatalf("Share(%d, %v, %d) = %v, %d", way, people, house, l, e)
				}
				total := 0
				for i, x := range l {
					total += x
					for j, y := range l {
						if people[i] > people[j] && x < y {
							t.Fatalf("Share(%d, %v, %d) = %v: fewer seats for more votes", way, people, house, l)
						}
					}
					if people[i] == 0 && x != 0 {
						t.Fatalf("Share(%d, %v, %d) = %v: seats without votes", way, people, house, l)
					}
				}
				if total != house {
					t.Fatalf("Share(%d, %v, %d) = %v: %d seats", way, people, house, l, total)
				}
			}
		}
	}
}

// TestNoSeatIsLost holds that, by quotients, one seat more goes to one party,
// and the others keep theirs.
func TestNoSeatIsLost(t *testing.T) {
	for _, people := range manyVotes(3) {
		for _, way := range []int{api.SGreat, api.SOdd} {
			last := make([]int, len(people))
			for house := 1; house <= 100; house++ {
				l, _ := seats.Share(way, people, house)
				for i := range l {
					if l[i] < last[i] {
						t.Fatalf("Share(%d, %v, %d) = %v, but %v with one seat less", way, people, house, l, last)
					}
				}
				last = l
			}
		}
	}
}

// TestQuota holds that, by SParts, each party has its quota, rounded down or
// up, and by SGreat no less than its quota rounded down.
func TestQuota(t *testing.T) {
	for _, people := range manyVotes(4) {
		total := 0
		for _, votes := range people {
			total += votes
		}
		for house := range 101 {
			parts, _ := seats.Share(api.SParts, people, house)
			great, _ := seats.Share(api.SGreat, people, house)
			for i, votes := range people {
				down, up := house*votes/total, (house*votes+total-1)/total
				if parts[i] < down || parts[i] > up {
					t.Fatalf("Share(SParts, %v, %d) = %v, but the quota of %d is %d to %d", people, house, parts, i, down, up)
				}
				if great[i] < down {
					t.Fatalf("Share(SGreat, %v, %d) = %v, but the quota of %d is at least %d", people, house, great, i, down)
				}
			}
		}
	}
}

// TestPlaces holds the seats of parties with different numbers of votes, which
// have no tie here, against those of the same parties in another order.
func TestPlaces(t *testing.T) {
	people := []int{900001, 500009, 300007, 123457, 70001, 40009, 9001, 503}
	chance := rand.New(rand.NewSource(5))
	for house := range 101 {
		for _, way := range everyWay() {
			l, _ := seats.Share(way, people, house)
			perm := chance.Perm(len(people))
			var moved, want []int
			for _, i := range perm {
				moved = append(moved, people[i])
				want = append(want, l[i])
			}
			if m, e := seats.Share(way, moved, house); !slices.Equal(m, want) || e != api.OK {
				t.Errorf("Share(%d, %v, %d) = %v, %d, want %v", way, moved, house, m, e, want)
			}
		}
	}
}
