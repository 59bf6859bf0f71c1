package roads_test

import (
	"math"
	"math/rand"
	"slices"
	"testing"

	"feathermark/api"
	"feathermark/roads"
)

// by returns roads with these costs.
func by(costs ...[]int) []api.Road {
	var l []api.Road
	for _, c := range costs {
		l = append(l, api.Road{Costs: c})
	}
	return l
}

// free returns roads that cost 0 for each of so many players.
func free(many, players int) []api.Road {
	l := make([]api.Road, many)
	for r := range l {
		l[r].Costs = make([]int, players)
	}
	return l
}

// rejected are roads and an assignment, and the error that they cause.
type rejected struct {
	name string
	l    []api.Road
	who  []int
	e    api.Errno
}

// invalid are roads and assignments that all functions reject.
func invalid() []rejected {
	return []rejected{
		{"nil roads", nil, []int{0, 0}, api.ErrLarge},
		{"no roads", []api.Road{}, []int{0, 0}, api.ErrLarge},
		{"nothing", nil, nil, api.ErrLarge},
		{"empty lists", []api.Road{}, []int{}, api.ErrLarge},
		{"5 roads", free(5, 2), []int{0, 1}, api.ErrLarge},
		{"5 roads without players", free(5, 0), nil, api.ErrLarge},
		{"1000 roads", free(1000, 1), []int{0}, api.ErrLarge},
		{"7 players", free(2, 7), make([]int, 7), api.ErrLarge},
		{"1000 players", free(2, 1000), make([]int, 1000), api.ErrLarge},
		{"7 players and 5 roads", free(5, 7), make([]int, 7), api.ErrLarge},
		{"7 players and no roads", nil, make([]int, 7), api.ErrLarge},
		// The sizes come before all else.
		{"5 roads, one of them uneven", append(free(4, 2), by([]int{1})...), []int{0, 1}, api.ErrLarge},
		{"5 roads, one of them too dear", append(free(4, 2), by([]int{1, 101})...), []int{0, 1}, api.ErrLarge},
		{"5 roads, a player on none", free(5, 2), []int{0, 5}, api.ErrLarge},
		{"7 players, costs for 6", free(2, 6), make([]int, 7), api.ErrLarge},
		{"7 players, a cost too small", by([]int{-1, 0, 0, 0, 0, 0, 0}), make([]int, 7), api.ErrLarge},
		{"7 players, all on no road", free(1, 7), slices.Repeat([]int{-1}, 7), api.ErrLarge},
		{"no roads, a player on none", nil, []int{-1}, api.ErrLarge},

		{"the test's, costs for 2", by([]int{1, 3}, []int{2, 2}), []int{0}, api.ErrForm},
		{"costs for 1", by([]int{1}), []int{0, 0}, api.ErrForm},
		{"nil costs", by(nil), []int{0}, api.ErrForm},
		{"empty costs", by([]int{}), []int{0}, api.ErrForm},
		{"a cost, but no players", by([]int{1}), nil, api.ErrForm},
		{"a cost on the second road, but no players", by(nil, []int{1}), []int{}, api.ErrForm},
		{"one cost too many", by([]int{1, 2}, []int{1, 2, 3}), []int{0, 1}, api.ErrForm},
		{"one cost too few on the last road", by([]int{1, 2}, []int{1, 2}, []int{1, 2}, []int{1}), []int{0, 1}, api.ErrForm},
		{"1000 costs", by(make([]int, 1000)), []int{0}, api.ErrForm},
		{"too many costs, the first too small", by([]int{-1, 0, 0}), []int{0, 0}, api.ErrForm},
		{"too few costs, the first too large", by([]int{101}), []int{0, 0}, api.ErrForm},

		{"below 0", by([]int{-1, 0}), []int{0, 0}, api.ErrArg},
		{"above 100", by([]int{0, 101}), []int{0, 0}, api.ErrArg},
		{"far below 0", by([]int{math.MinInt, 0}), []int{0, 0}, api.ErrArg},
		{"far above 100", by([]int{0, math.MaxInt}), []int{0, 0}, api.ErrArg},
		{"above 100 on the last road", by([]int{1, 2}, []int{1, 2}, []int{1, 2}, []int{101, 102}), []int{0, 0}, api.ErrArg},
		{"above 100 for more than are there", by([]int{1, 2}, []int{1, 101}), []int{0, 0}, api.ErrArg},
		{"a fall below 0", by([]int{5, -1}), []int{0, 0}, api.ErrArg},
		{"a fall from above 100", by([]int{101, 100}), []int{0, 0}, api.ErrArg},

		{"a fall", by([]int{2, 1}), []int{0, 0}, api.ErrForm},
		{"a fall to 0", by([]int{1, 0}), []int{0, 0}, api.ErrForm},
		{"a fall from 100", by([]int{100, 99}), []int{0, 0}, api.ErrForm},
		{"a fall at the end", by([]int{1, 2, 3, 4, 5, 4}), make([]int, 6), api.ErrForm},
		{"a fall after a rise", by([]int{1, 5, 3}), []int{0, 0, 0}, api.ErrForm},
		{"a fall on the last road", by([]int{1, 2}, []int{1, 9}, []int{9, 8}), []int{0, 0}, api.ErrForm},
		{"a fall for more than are there", by([]int{1, 2}, []int{2, 1}), []int{0, 0}, api.ErrForm},

		// The first cost that is wrong decides, and the first road.
		{"a fall, then too large", by([]int{2, 1, 101}), []int{0, 0, 0}, api.ErrForm},
		{"a fall, then below 0", by([]int{2, 1, -1}), []int{0, 0, 0}, api.ErrForm},
		{"too large, then a fall", by([]int{101, 2, 1}), []int{0, 0, 0}, api.ErrArg},
		{"below 0, then a fall", by([]int{-1, 2, 1}), []int{0, 0, 0}, api.ErrArg},
		{"too large, then costs for 1", by([]int{1, 101}, []int{1}), []int{0, 0}, api.ErrArg},
		{"costs for 1, then too large", by([]int{1}, []int{1, 101}), []int{0, 0}, api.ErrForm},
		{"a fall, then too large on the next road", by([]int{2, 1}, []int{1, 101}), []int{0, 0}, api.ErrForm},
		{"too large, then a fall on the next road", by([]int{1, 101}, []int{2, 1}), []int{0, 0}, api.ErrArg},

		{"the test's, player 1 on road 2", by([]int{1, 3}, []int{2, 2}), []int{0, 2}, api.ErrNone},
		{"player 0 on road 2", by([]int{1, 3}, []int{2, 2}), []int{2, 0}, api.ErrNone},
		{"on road -1", by([]int{1, 3}, []int{2, 2}), []int{0, -1}, api.ErrNone},
		{"on road 4 of 4", free(4, 1), []int{4}, api.ErrNone},
		{"on road 3 of 3", free(3, 1), []int{3}, api.ErrNone},
		{"on road 1 of 1", free(1, 1), []int{1}, api.ErrNone},
		{"far beyond", free(4, 2), []int{3, math.MaxInt}, api.ErrNone},
		{"far before", free(4, 2), []int{math.MinInt, 0}, api.ErrNone},
		{"the last of 6", free(4, 6), []int{0, 1, 2, 3, 0, 4}, api.ErrNone},
		// That a player is on no road comes last.
		{"on no road, costs for 1", by([]int{1}), []int{0, 1}, api.ErrForm},
		{"on no road, too large", by([]int{1, 101}), []int{-1, 1}, api.ErrArg},
		{"on no road, a fall", by([]int{2, 1}), []int{1, 1}, api.ErrForm},
		{"on no road, a fall on the last one", by([]int{1, 2}, []int{2, 1}), []int{2, 2}, api.ErrForm},
	}
}

func TestErrors(t *testing.T) {
	for _, c := range invalid() {
		if e := roads.Check(c.l, c.who); e != c.e || e == api.OK {
			t.Errorf("%s: Check(%v, %v) = %d, want %d", c.name, c.l, c.who, e, c.e)
		}
		if l, e := roads.Costs(c.l, c.who); len(l) != 0 || e != c.e {
			t.Errorf("%s: Costs(%v, %v) = %v, %d, want error %d", c.name, c.l, c.who, l, e, c.e)
		}
		if x, e := roads.Height(c.l, c.who); x != 0 || e != c.e {
			t.Errorf("%s: Height(%v, %v) = %d, %d, want error %d", c.name, c.l, c.who, x, e, c.e)
		}
		if l, n, e := roads.Settle(c.l, c.who); len(l) != 0 || n != 0 || e != c.e {
			t.Errorf("%s: Settle(%v, %v) = %v, %d, %d, want error %d", c.name, c.l, c.who, l, n, e, c.e)
		}
		// The errors of Check come before that there is no player i.
		for _, i := range []int{0, 1, -1, len(c.who), math.MinInt, math.MaxInt} {
			if x, e := roads.Better(c.l, c.who, i); x != 0 || e != c.e {
				t.Errorf("%s: Better(%v, %v, %d) = %d, %d, want error %d", c.name, c.l, c.who, i, x, e, c.e)
			}
		}
	}
}

func TestBetterOfNoPlayer(t *testing.T) {
	for players := range 7 {
		l := free(2, players)
		who := slices.Repeat([]int{1}, players)
		for _, i := range []int{-1, players, players + 1, 6, 7, math.MinInt, math.MaxInt} {
			if x, e := roads.Better(l, who, i); x != 0 || e != api.ErrArg {
				t.Errorf("Better(%v, %v, %d) = %d, %d, want error %d", l, who, i, x, e, api.ErrArg)
			}
		}
		for i := range players {
			if x, e := roads.Better(l, who, i); x != 1 || e != api.OK {
				t.Errorf("Better(%v, %v, %d) = %d, %d", l, who, i, x, e)
			}
		}
	}
}

// TestCheckOfEachSize holds that each number of roads, of players and of costs
// at the limits is accepted, and none beyond.
func TestCheckOfEachSize(t *testing.T) {
	for many := range 7 {
		for players := range 9 {
			for costs := range 9 {
				want := api.OK
				if many < 1 || many > 4 || players > 6 {
					want = api.ErrLarge
				} else if costs != players {
					want = api.ErrForm
				}
				if e := roads.Check(free(many, costs), make([]int, players)); e != want {
					t.Errorf("Check of %d roads with %d costs for %d players = %d, want %d", many, costs, players, e, want)
				}
			}
		}
	}
}

// TestCheckOfEachCost puts values at the limits at each place of each road.
func TestCheckOfEachCost(t *testing.T) {
	for many := 1; many <= 4; many++ {
		for players := 1; players <= 6; players++ {
			for r := range many {
				for at := range players {
					for _, cost := range []int{-1, 0, 1, 49, 50, 51, 99, 100, 101} {
						l := free(many, players)
						for k := range players {
							if k < at {
								l[r].Costs[k] = 50
							} else {
								l[r].Costs[k] = cost
							}
						}
						want := api.OK
						if cost < 0 || cost > 100 {
							want = api.ErrArg
						} else if at > 0 && cost < 50 {
							want = api.ErrForm
						}
						if e := roads.Check(l, make([]int, players)); e != want {
							t.Errorf("Check(%v) = %d, want %d", l, e, want)
						}
					}
				}
			}
		}
	}
}

// TestCheckOfEachPlayer puts each player on each road, and beyond.
func TestCheckOfEachPlayer(t *testing.T) {
	for many := 1; many <= 4; many++ {
		for players := 1; players <= 6; players++ {
			for i := range players {
				for r := -2; r < 7; r++ {
					who := make([]int, players)
					who[i] = r
					want := api.OK
					if r < 0 || r >= many {
						want = api.ErrNone
					}
					if e := roads.Check(free(many, players), who); e != want {
						t.Errorf("Check of %d roads, %v = %d, want %d", many, who, e, want)
					}
				}
			}
		}
	}
}

// results are what the functions return for roads and an assignment.
type results struct {
	name    string
	l       []api.Road
	who     []int
	costs   []int
	height  int
	better  []int
	settled []int
	moves   int
}

func examples() []results {
	two := by([]int{1, 5}, []int{2, 3})
	test := by([]int{1, 3}, []int{2, 2})
	flat := by([]int{4, 4, 4}, []int{4, 4, 4})
	six := by([]int{1, 2, 3, 4, 5, 6}, []int{1, 2, 3, 4, 5, 6}, []int{1, 2, 3, 4, 5, 6}, []int{1, 2, 3, 4, 5, 6})
	return []results{
		{"the chapter's", two, []int{0, 0}, []int{5, 5}, 6, []int{1, 1}, []int{1, 0}, 1},
		{"the chapter's, apart", two, []int{0, 1}, []int{1, 2}, 3, []int{0, 1}, []int{0, 1}, 0},
		{"the chapter's, at its end", two, []int{1, 0}, []int{2, 1}, 3, []int{1, 0}, []int{1, 0}, 0},
		{"the chapter's, on the second road", two, []int{1, 1}, []int{3, 3}, 5, []int{0, 0}, []int{0, 1}, 1},
		{"the test's", test, []int{0, 0}, []int{3, 3}, 4, []int{1, 1}, []int{1, 0}, 1},
		{"the test's, on the second road", test, []int{1, 1}, []int{2, 2}, 4, []int{0, 0}, []int{0, 1}, 1},
		{"no players", by(nil, []int{}), nil, nil, 0, nil, nil, 0},
		{"one road", by([]int{1, 10, 100}), []int{0, 0, 0}, []int{100, 100, 100}, 111, []int{0, 0, 0}, []int{0, 0, 0}, 0},
		{"one player, on the best road", by([]int{5}, []int{7}), []int{0}, []int{5}, 5, []int{0}, []int{0}, 0},
		{"one player, on the worse road", by([]int{7}, []int{5}), []int{0}, []int{7}, 7, []int{1}, []int{1}, 1},
		// As good is not better.
		{"one player, on the second of two", by([]int{5}, []int{5}), []int{1}, []int{5}, 5, []int{1}, []int{1}, 0},
		{"one player, on the last of the best", by([]int{5}, []int{6}, []int{5}, []int{5}), []int{3}, []int{5}, 5, []int{3}, []int{3}, 0},
		{"the first of the best ones after", by([]int{9}, []int{6}, []int{5}, []int{5}), []int{0}, []int{9}, 9, []int{2}, []int{2}, 1},
		{"the first of the best ones before", by([]int{5}, []int{6}, []int{5}, []int{9}), []int{3}, []int{9}, 9, []int{0}, []int{0}, 1},
		{"the first of the best ones on both sides", by([]int{6}, []int{5}, []int{9}, []int{5}), []int{2}, []int{9}, 9, []int{1}, []int{1}, 1},
		{"the least, not the first that is less", by([]int{9}, []int{8}, []int{7}, []int{6}), []int{0}, []int{9}, 9, []int{3}, []int{3}, 1},
		{"the least is the first", by([]int{6}, []int{7}, []int{8}, []int{9}), []int{3}, []int{9}, 9, []int{0}, []int{0}, 1},
		{"flat", flat, []int{0, 1, 1}, []int{4, 4, 4}, 12, []int{0, 1, 1}, []int{0, 1, 1}, 0},
		{"free", free(4, 6), []int{3, 2, 3, 1, 0, 3}, make([]int, 6), 0, []int{3, 2, 3, 1, 0, 3}, []int{3, 2, 3, 1, 0, 3}, 0},
		{"dear", by(slices.Repeat([]int{100}, 6)), make([]int, 6), slices.Repeat([]int{100}, 6), 600, make([]int, 6), make([]int, 6), 0},
		// Someone who moves pays for one more than is there now: road 1 costs 3
		// then, and not 1.
		{"as good after the move", by([]int{1, 3}, []int{1, 3}), []int{0, 1}, []int{1, 1}, 2, []int{0, 1}, []int{0, 1}, 0},
		{"a road that is cheap for one", by([]int{1, 2}, []int{1, 2}, []int{9, 9}), []int{0, 0}, []int{2, 2}, 3, []int{1, 1}, []int{1, 0}, 1},
		{"all on the first", six, []int{0, 0, 0, 0, 0, 0}, []int{6, 6, 6, 6, 6, 6}, 21, []int{1, 1, 1, 1, 1, 1}, []int{1, 2, 3, 1, 0, 0}, 4},
		{"all on the last", six, []int{3, 3, 3, 3, 3, 3}, []int{6, 6, 6, 6, 6, 6}, 21, []int{0, 0, 0, 0, 0, 0}, []int{0, 1, 2, 0, 3, 3}, 4},
		// The first of those who gain by a move is the next one.
		{"two move, the third one need not", by([]int{0, 9, 9}, []int{5, 5, 5}, []int{8, 8, 8}), []int{2, 0, 0}, []int{8, 9, 9}, 17, []int{1, 1, 1}, []int{1, 1, 0}, 2},
		{"two move, the third one comes too late", by([]int{2, 2, 8}, []int{3, 3, 3}, []int{9, 9, 9}), []int{2, 2, 1}, []int{9, 9, 3}, 21, []int{0, 0, 0}, []int{0, 0, 1}, 2},
		{"one of two moves", by([]int{1, 1, 9}, []int{2, 2, 2}), []int{0, 1, 1}, []int{1, 2, 2}, 5, []int{0, 0, 0}, []int{0, 0, 1}, 1},
	}
}

func TestExamples(t *testing.T) {
	for _, c := range examples() {
		if e := roads.Check(c.l, c.who); e != api.OK {
			t.Errorf("%s: Check(%v, %v) = %d", c.name, c.l, c.who, e)
		}
		if l, e := roads.Costs(c.l, c.who); !slices.Equal(l, c.costs) || e != api.OK {
			t.Errorf("%s: Costs(%v, %v) = %v, %d, want %v", c.name, c.l, c.who, l, e, c.costs)
		}
		if x, e := roads.Height(c.l, c.who); x != c.height || e != api.OK {
			t.Errorf("%s: Height(%v, %v) = %d, %d, want %d", c.name, c.l, c.who, x, e, c.height)
		}
		for i, want := range c.better {
			if x, e := roads.Better(c.l, c.who, i); x != want || e != api.OK {
				t.Errorf("%s: Better(%v, %v, %d) = %d, %d, want %d", c.name, c.l, c.who, i, x, e, want)
			}
		}
		if l, n, e := roads.Settle(c.l, c.who); !slices.Equal(l, c.settled) || n != c.moves || e != api.OK {
			t.Errorf("%s: Settle(%v, %v) = %v, %d, %d, want %v, %d", c.name, c.l, c.who, l, n, e, c.settled, c.moves)
		}
	}
}

// next counts digits up, as those of a number, until all of them are 0 again.
func next(digits []int, base int) bool {
	for i := range digits {
		digits[i] = (digits[i] + 1) % base
		if digits[i] != 0 {
			return true
		}
	}
	return false
}

// everySmallGame calls f with each game of up to 3 roads and 3 players with
// costs of 0 to 2, but those of 3 roads and 3 players.
func everySmallGame(f func(l []api.Road, who []int)) {
	for _, size := range [][2]int{{1, 1}, {1, 2}, {1, 3}, {2, 1}, {2, 2}, {2, 3}, {3, 1}, {3, 2}} {
		many, players := size[0], size[1]
		l := free(many, players)
		costs := make([]int, many*players)
		for more := true; more; more = next(costs, 3) {
			for r := range l {
				copy(l[r].Costs, costs[r*players:])
			}
			who := make([]int, players)
			if roads.Check(l, who) != api.OK {
				continue
			}
			for another := true; another; another = next(who, many) {
				f(l, who)
			}
		}
	}
}

// someGames calls f with games of each size, by chance, but the same ones at
// each run.
func someGames(f func(l []api.Road, who []int)) {
	chance := rand.New(rand.NewSource(14))
	for many := 1; many <= 4; many++ {
		for players := range 7 {
			for i := range 500 {
				l := free(many, players)
				// Few different costs make many roads that are as good.
				most := []int{2, 4, 10, 100}[i%4]
				for r := range l {
					for k := range players {
						l[r].Costs[k] = chance.Intn(most + 1)
					}
					slices.Sort(l[r].Costs)
				}
				who := make([]int, players)
				for p := range who {
					who[p] = chance.Intn(many)
				}
				// Where all start on a dear road, many of them move.
				if i%3 == 0 {
					clear(who)
					l[0].Costs = slices.Repeat([]int{most}, players)
				}
				f(l, who)
			}
		}
	}
}

// everyGame calls f with all games of the two functions above.
func everyGame(f func(l []api.Road, who []int)) {
	everySmallGame(f)
	someGames(f)
}

// pays returns what player i pays.
func pays(l []api.Road, who []int, i int) int {
	n := -1
	for _, r := range who {
		if r == who[i] {
			n++
		}
	}
	return l[who[i]].Costs[n]
}

// moved returns the assignment after a move of player i.
func moved(who []int, i, r int) []int {
	now := slices.Clone(who)
	now[i] = r
	return now
}

// response returns the best response of player i, found by trying each road.
func response(l []api.Road, who []int, i int) int {
	least := 1000
	for r := range l {
		least = min(least, pays(l, moved(who, i, r), i))
	}
	if pays(l, who, i) == least {
		return who[i]
	}
	r := 0
	for pays(l, moved(who, i, r), i) != least {
		r++
	}
	return r
}

func TestCostsOfEveryGame(t *testing.T) {
	everyGame(func(l []api.Road, who []int) {
		costs, e := roads.Costs(l, who)
		if len(costs) != len(who) || e != api.OK {
			t.Fatalf("Costs(%v, %v) = %v, %d", l, who, costs, e)
		}
		for i, cost := range costs {
			if want := pays(l, who, i); cost != want {
				t.Fatalf("Costs(%v, %v) = %v, but player %d pays %d", l, who, costs, i, want)
			}
		}
	})
}

// TestHeightOfEveryGame lets the players come one by one: the potential is the
// sum of what each of them pays when it comes.
func TestHeightOfEveryGame(t *testing.T) {
	everyGame(func(l []api.Road, who []int) {
		want := 0
		for i := range who {
			want += pays(l, who[:i+1], i)
		}
		if x, e := roads.Height(l, who); x != want || e != api.OK {
			t.Fatalf("Height(%v, %v) = %d, %d, want %d", l, who, x, e, want)
		}
	})
}

// TestPotential holds that whoever moves saves as much as the potential falls,
// whether or not the move is a good one.
func TestPotential(t *testing.T) {
	everyGame(func(l []api.Road, who []int) {
		height, _ := roads.Height(l, who)
		costs, _ := roads.Costs(l, who)
		for i := range who {
			for r := range l {
				now := moved(who, i, r)
				height2, _ := roads.Height(l, now)
				costs2, _ := roads.Costs(l, now)
				if height-height2 != costs[i]-costs2[i] {
					t.Fatalf("%v: from %v to %v, the potential falls from %d to %d, the cost from %d to %d", l, who, now, height, height2, costs[i], costs2[i])
				}
			}
		}
	})
}

func TestBetterOfEveryGame(t *testing.T) {
	stays, moves := 0, 0
	everyGame(func(l []api.Road, who []int) {
		for i := range who {
			want := response(l, who, i)
			if x, e := roads.Better(l, who, i); x != want || e != api.OK {
				t.Fatalf("Better(%v, %v, %d) = %d, %d, want %d", l, who, i, x, e, want)
			}
			if want == who[i] {
				stays++
			} else {
				moves++
			}
		}
	})
	if min(stays, moves) < 1000 {
		t.Errorf("in the games, %d players stay, and %d move: too few", stays, moves)
	}
}

// dynamics moves player by player, and returns how that ends, and the number of
// moves.
func dynamics(l []api.Road, who []int) ([]int, int) {
	now := slices.Clone(who)
	moves := 0
	for i := 0; i < len(now); i++ {
		if r := response(l, now, i); r != now[i] {
			now[i] = r
			moves++
			i = -1
		}
	}
	return now, moves
}

func TestSettleOfEveryGame(t *testing.T) {
	counts := make([]int, 7)
	everyGame(func(l []api.Road, who []int) {
		want, moves := dynamics(l, who)
		if now, n, e := roads.Settle(l, who); !slices.Equal(now, want) || n != moves || e != api.OK {
			t.Fatalf("Settle(%v, %v) = %v, %d, %d, want %v, %d", l, who, now, n, e, want, moves)
		}
		counts[min(moves, 6)]++
	})
	if slices.Min(counts) < 20 {
		t.Errorf("too few games have so many moves: %v", counts)
	}
}

// TestSettled holds that nobody moves at the end, that it is the end for
// itself, too, and that the potential falls with each move.
func TestSettled(t *testing.T) {
	everyGame(func(l []api.Road, who []int) {
		now, n, _ := roads.Settle(l, who)
		costs, e := roads.Costs(l, now)
		if e != api.OK {
			t.Fatalf("Settle(%v, %v) = %v: error %d", l, who, now, e)
		}
		for i := range now {
			for r := range l {
				if pays(l, moved(now, i, r), i) < costs[i] {
					t.Fatalf("Settle(%v, %v) = %v, but road %d costs player %d less", l, who, now, r, i)
				}
			}
		}
		if again, n2, e := roads.Settle(l, now); !slices.Equal(again, now) || n2 != 0 || e != api.OK {
			t.Fatalf("Settle(%v, %v) = %v, %d, %d, after an earlier Settle", l, now, again, n2, e)
		}
		height, _ := roads.Height(l, who)
		if after, _ := roads.Height(l, now); after+n > height {
			t.Fatalf("%v: the potential falls from %d to %d in %d moves from %v", l, height, after, n, who)
		}
	})
}

// TestNamesOfPlayers holds that what each player pays and does best stays its
// own if the players are listed in another order.
func TestNamesOfPlayers(t *testing.T) {
	chance := rand.New(rand.NewSource(15))
	everyGame(func(l []api.Road, who []int) {
		to := chance.Perm(len(who))
		other := make([]int, len(who))
		for i, r := range who {
			other[to[i]] = r
		}
		costs, _ := roads.Costs(l, who)
		costs2, _ := roads.Costs(l, other)
		for i := range who {
			x, _ := roads.Better(l, who, i)
			x2, _ := roads.Better(l, other, to[i])
			if costs2[to[i]] != costs[i] || x2 != x {
				t.Fatalf("%v: in %v, player %d pays %d and does best on %d; in %v: %d, %d", l, who, i, costs[i], x, other, costs2[to[i]], x2)
			}
		}
		height, _ := roads.Height(l, who)
		if height2, _ := roads.Height(l, other); height2 != height {
			t.Fatalf("%v: the potential of %v is %d, of %v: %d", l, who, height, other, height2)
		}
	})
}

// TestNamesOfRoads holds that the costs stay if the roads are listed in another
// order.
func TestNamesOfRoads(t *testing.T) {
	chance := rand.New(rand.NewSource(16))
	everyGame(func(l []api.Road, who []int) {
		to := chance.Perm(len(l))
		l2 := make([]api.Road, len(l))
		for r, road := range l {
			l2[to[r]] = road
		}
		other := make([]int, len(who))
		for i, r := range who {
			other[i] = to[r]
		}
		costs, _ := roads.Costs(l, who)
		height, _ := roads.Height(l, who)
		if costs2, e := roads.Costs(l2, other); !slices.Equal(costs2, costs) || e != api.OK {
			t.Fatalf("Costs(%v, %v) = %v, %d, want %v", l2, other, costs2, e, costs)
		}
		if height2, e := roads.Height(l2, other); height2 != height || e != api.OK {
			t.Fatalf("Height(%v, %v) = %d, %d, want %d", l2, other, height2, e, height)
		}
		for i := range who {
			x, _ := roads.Better(l, who, i)
			x2, e := roads.Better(l2, other, i)
			cost, cost2 := pays(l, moved(who, i, x), i), pays(l2, moved(other, i, x2), i)
			if cost2 != cost || (x == who[i]) != (x2 == other[i]) || e != api.OK {
				t.Fatalf("Better(%v, %v, %d) = %d, %d for %d, but %d for %d", l2, other, i, x2, e, cost2, x, cost)
			}
		}
	})
}
