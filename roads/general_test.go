package roads_test

import (
	"math"
	"slices"
	"testing"

	"feathermark/api"
	"feathermark/roads"
)

// The general rules, P1 and P2, for the functions of this package.

// game is a list of roads and an assignment of players to them.
type game struct {
	l   []api.Road
	who []int
}

// wild returns games of all kinds: right ones, near misses, and far ones.
func wild() []game {
	var all []game
	for _, c := range invalid() {
		all = append(all, game{c.l, c.who})
	}
	for _, c := range examples() {
		all = append(all, game{c.l, c.who})
	}
	far := [][]int{nil, {}, {0}, {3}, {0, 1}, {1, 1}, {math.MaxInt, math.MinInt}, {-1, 4, 0}, make([]int, 6), make([]int, 7)}
	for many := range 6 {
		for players := range 8 {
			for _, who := range far {
				all = append(all, game{free(many, players), who})
			}
		}
	}
	for _, costs := range far {
		for _, who := range far {
			all = append(all, game{by(costs), who}, game{by(costs, who), who}, game{by(who, costs), who})
		}
	}
	return all
}

// call makes every call with this game.
func call(l []api.Road, who []int) {
	roads.Check(l, who)
	roads.Costs(l, who)
	roads.Height(l, who)
	roads.Settle(l, who)
	for i := -2; i < 9; i++ {
		roads.Better(l, who, i)
	}
	roads.Better(l, who, math.MinInt)
	roads.Better(l, who, math.MaxInt)
}

func TestNothingPanics(t *testing.T) {
	defer func() {
		if r := recover(); r != nil {
			t.Error("panic:", r)
		}
	}()
	for _, g := range wild() {
		call(g.l, g.who)
	}
}

// spare returns a copy of l with spare memory behind it, which belongs to the
// caller, too.
func spare(l []int) []int {
	return append(slices.Clone(l), 77, 78, 79, 80, 81, 82)[:len(l)]
}

// withSpare returns a copy of g with spare memory behind each of its lists.
func withSpare(g game) game {
	l := make([]api.Road, 0, len(g.l)+1)
	for _, road := range g.l {
		l = append(l, api.Road{Costs: spare(road.Costs)})
	}
	return game{append(l, api.Road{Costs: []int{83}})[:len(g.l)], spare(g.who)}
}

// whole returns the lists of a game with all their spare memory, as a copy: the
// assignment, and then the costs of each road.
func whole(g game) [][]int {
	all := [][]int{slices.Clone(g.who[:cap(g.who)])}
	for _, road := range g.l[:len(g.l)+1] {
		all = append(all, slices.Clone(road.Costs[:cap(road.Costs)]))
	}
	return all
}

// same tells whether two lists have the same rows.
func same(m, l [][]int) bool {
	return slices.EqualFunc(m, l, slices.Equal)
}

func TestArgumentsStayAsTheyAre(t *testing.T) {
	for _, g := range wild() {
		g = withSpare(g)
		was := whole(g)
		call(g.l, g.who)
		if !same(whole(g), was) {
			t.Errorf("%v became %v", was, whole(g))
		}
	}
}

// fill overwrites the memory of a slice, with its spare capacity.
func fill(l []int, x int) {
	l = l[:cap(l)]
	for i := range l {
		l[i] = x
	}
}

func TestCostsReturnsNewMemory(t *testing.T) {
	for _, c := range examples() {
		g := withSpare(game{c.l, c.who})
		was := whole(g)
		l, _ := roads.Costs(g.l, g.who)
		again, _ := roads.Costs(g.l, g.who)
		fill(l, -1)
		third, _ := roads.Costs(g.l, g.who)
		if !slices.Equal(again, c.costs) || !slices.Equal(third, c.costs) || !same(whole(g), was) {
			t.Errorf("%s: Costs depends on an earlier result", c.name)
		}
	}
}

func TestSettleReturnsNewMemory(t *testing.T) {
	for _, c := range examples() {
		g := withSpare(game{c.l, c.who})
		was := whole(g)
		l, _, _ := roads.Settle(g.l, g.who)
		again, _, _ := roads.Settle(g.l, g.who)
		fill(l, -1)
		third, n, _ := roads.Settle(g.l, g.who)
		if !slices.Equal(again, c.settled) || !slices.Equal(third, c.settled) || n != c.moves || !same(whole(g), was) {
			t.Errorf("%s: Settle depends on an earlier result", c.name)
		}
	}
}

// TestSpareMemoryDoesNotMatter holds that only the elements of a slice count,
// and not what is behind them.
func TestSpareMemoryDoesNotMatter(t *testing.T) {
	for _, g := range wild() {
		s := withSpare(g)
		if e, e2 := roads.Check(g.l, g.who), roads.Check(s.l, s.who); e != e2 {
			t.Errorf("Check(%v, %v) = %d, but %d with spare memory", g.l, g.who, e, e2)
		}
		l, _ := roads.Costs(g.l, g.who)
		if l2, _ := roads.Costs(s.l, s.who); !slices.Equal(l, l2) {
			t.Errorf("Costs(%v, %v) = %v, but %v with spare memory", g.l, g.who, l, l2)
		}
		x, _ := roads.Height(g.l, g.who)
		if x2, _ := roads.Height(s.l, s.who); x != x2 {
			t.Errorf("Height(%v, %v) = %d, but %d with spare memory", g.l, g.who, x, x2)
		}
		for i := range g.who {
			x, e := roads.Better(g.l, g.who, i)
			if x2, e2 := roads.Better(s.l, s.who, i); x != x2 || e != e2 {
				t.Errorf("Better(%v, %v, %d) = %d, %d, but %d, %d with spare memory", g.l, g.who, i, x, e, x2, e2)
			}
		}
		now, n, _ := roads.Settle(g.l, g.who)
		if now2, n2, _ := roads.Settle(s.l, s.who); !slices.Equal(now, now2) || n != n2 {
			t.Errorf("Settle(%v, %v) = %v, %d, but %v, %d with spare memory", g.l, g.who, now, n, now2, n2)
		}
	}
}

// TestNothingIsKept changes the arguments between calls: only what they hold at
// the call counts.
func TestNothingIsKept(t *testing.T) {
	l, who := free(2, 2), make([]int, 2)
	for range 2 {
		for _, c := range examples() {
			if len(c.l) != 2 || len(c.who) != 2 {
				continue
			}
			copy(who, c.who)
			for r, road := range c.l {
				copy(l[r].Costs, road.Costs)
			}
			if costs, e := roads.Costs(l, who); !slices.Equal(costs, c.costs) || e != api.OK {
				t.Errorf("%s: Costs(%v, %v) = %v, %d", c.name, l, who, costs, e)
			}
			if x, e := roads.Height(l, who); x != c.height || e != api.OK {
				t.Errorf("%s: Height(%v, %v) = %d, %d", c.name, l, who, x, e)
			}
			if now, n, e := roads.Settle(l, who); !slices.Equal(now, c.settled) || n != c.moves || e != api.OK {
				t.Errorf("%s: Settle(%v, %v) = %v, %d, %d", c.name, l, who, now, n, e)
			}
			call(l, []int{1, 2})
		}
	}
}

// TestListsMayBeTheSame has the roads and the assignment share one list.
func TestListsMayBeTheSame(t *testing.T) {
	who := []int{0, 1}
	l := by(who, who)
	if costs, e := roads.Costs(l, who); !slices.Equal(costs, []int{0, 0}) || e != api.OK {
		t.Errorf("Costs(%v, %v) = %v, %d", l, who, costs, e)
	}
	who[1] = 0
	l = by(who, []int{1, 1}, who)
	if now, n, e := roads.Settle(l, who); !slices.Equal(now, []int{0, 0}) || n != 0 || e != api.OK {
		t.Errorf("Settle(%v, %v) = %v, %d, %d", l, who, now, n, e)
	}
	who = []int{1, 1}
	l = by(who, []int{2, 2})
	if now, n, e := roads.Settle(l, who); !slices.Equal(now, []int{0, 0}) || n != 2 || e != api.OK {
		t.Errorf("Settle(%v, %v) = %v, %d, %d", l, who, now, n, e)
	}
	if !slices.Equal(who, []int{1, 1}) {
		t.Errorf("Settle changed the assignment to %v", who)
	}
}

func TestNilIsAnEmptyList(t *testing.T) {
	for _, who := range [][]int{nil, {}} {
		for _, l := range [][]api.Road{nil, {}} {
			if e := roads.Check(l, who); e != api.ErrLarge {
				t.Errorf("Check(%#v, %#v) = %d", l, who, e)
			}
		}
		for _, l := range [][]api.Road{by(nil), by([]int{}), by(nil, []int{}), by(nil, nil, nil, nil)} {
			if e := roads.Check(l, who); e != api.OK {
				t.Errorf("Check(%#v, %#v) = %d", l, who, e)
			}
			if costs, e := roads.Costs(l, who); len(costs) != 0 || e != api.OK {
				t.Errorf("Costs(%#v, %#v) = %v, %d", l, who, costs, e)
			}
			if x, e := roads.Height(l, who); x != 0 || e != api.OK {
				t.Errorf("Height(%#v, %#v) = %d, %d", l, who, x, e)
			}
			if x, e := roads.Better(l, who, 0); x != 0 || e != api.ErrArg {
				t.Errorf("Better(%#v, %#v, 0) = %d, %d", l, who, x, e)
			}
			if now, n, e := roads.Settle(l, who); len(now) != 0 || n != 0 || e != api.OK {
				t.Errorf("Settle(%#v, %#v) = %v, %d, %d", l, who, now, n, e)
			}
		}
	}
}
