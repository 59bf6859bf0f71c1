package power_test

import (
	"math"
	"math/rand"
	"slices"
	"testing"

	"feathermark/api"
	"feathermark/power"
)

// same returns n players with the same weight each.
func same(n, weight int) []int {
	return slices.Repeat([]int{weight}, n)
}

// total returns the weights of all players together.
func total(w []int) int {
	sum := 0
	for _, x := range w {
		sum += x
	}
	return sum
}

// rejected are arguments, and the error that they cause.
type rejected struct {
	name  string
	w     []int
	quota int
	e     api.Errno
}

// invalid are games that all functions of the package reject.
func invalid() []rejected {
	return []rejected{
		{"nil", nil, 1, api.ErrLarge},
		{"no players", []int{}, 1, api.ErrLarge},
		{"no players, quota 0", []int{}, 0, api.ErrLarge},
		{"7 players", same(7, 1), 1, api.ErrLarge},
		{"64 players", same(64, 1), 1, api.ErrLarge},
		{"1000 players", same(1000, 1), 1, api.ErrLarge},
		{"7 players, one below 0", append(same(6, 1), -1), 1, api.ErrLarge},
		{"7 players, one too heavy", append(same(6, 1), 1001), 1, api.ErrLarge},
		{"7 players, no right quota", same(7, 1), 8, api.ErrLarge},
		{"a weight below 0", []int{-1}, 1, api.ErrArg},
		{"a weight below 0 among others", []int{3, -1, 3}, 2, api.ErrArg},
		{"too heavy", []int{1001}, 1, api.ErrArg},
		{"the smallest weight of all", []int{1, math.MinInt}, 1, api.ErrArg},
		{"the greatest weight of all", []int{1, math.MaxInt}, 1, api.ErrArg},
		// The sums of these are no right ones, but each weight is checked first.
		{"weights that wrap around", []int{math.MaxInt, math.MaxInt, 3}, 1, api.ErrArg},
		{"weights that cancel out", []int{5, -5}, 1, api.ErrArg},
		{"a weight below 0, quota 0", []int{-1, 1}, 0, api.ErrArg},
		{"too heavy, quota too great", []int{1, 1001}, 1003, api.ErrArg},
		{"quota 0", []int{2, 1, 1}, 0, api.ErrForm},
		{"quota below 0", []int{2, 1, 1}, -1, api.ErrForm},
		{"the smallest quota of all", []int{2, 1, 1}, math.MinInt, api.ErrForm},
		{"quota too great", []int{2, 1, 1}, 5, api.ErrForm},
		{"quota too great for one", []int{1000}, 1001, api.ErrForm},
		{"quota too great for 6", same(6, 1000), 6001, api.ErrForm},
		{"the greatest quota of all", []int{2, 1, 1}, math.MaxInt, api.ErrForm},
		// Without any weight, no quota is right.
		{"no weight, quota 0", []int{0}, 0, api.ErrForm},
		{"no weight, quota 1", []int{0}, 1, api.ErrForm},
		{"no weight of 6, quota 0", same(6, 0), 0, api.ErrForm},
		{"no weight of 6, quota 1", same(6, 0), 1, api.ErrForm},
	}
}

// example is a game, and what Swings and Turns return for it.
type example struct {
	name   string
	w      []int
	quota  int
	swings []int
	turns  []int
}

func examples() []example {
	return []example{
		{"the chapter's", []int{2, 1, 1}, 3, []int{3, 1, 1}, []int{4, 1, 1}},
		{"one player", []int{1}, 1, []int{1}, []int{1}},
		{"one heavy player", []int{1000}, 1, []int{1}, []int{1}},
		{"one heavy player, greatest quota", []int{1000}, 1000, []int{1}, []int{1}},
		{"a player without weight", []int{0, 1}, 1, []int{0, 2}, []int{0, 2}},
		{"a dictator", []int{5, 1, 1, 1}, 5, []int{8, 0, 0, 0}, []int{24, 0, 0, 0}},
		{"a veto", []int{3, 2, 1}, 4, []int{3, 1, 1}, []int{4, 1, 1}},
		{"all of them are needed", []int{2, 1, 1}, 4, []int{1, 1, 1}, []int{2, 2, 2}},
		{"anyone is enough", []int{2, 1, 1}, 1, []int{1, 1, 1}, []int{2, 2, 2}},
		{"weights that don't tell", []int{49, 49, 2}, 51, []int{2, 2, 2}, []int{2, 2, 2}},
		{"two of three, the fourth in vain", []int{6, 6, 6, 1}, 10, []int{4, 4, 4, 0}, []int{8, 8, 8, 0}},
		{"four players, all different", []int{4, 3, 2, 1}, 6, []int{5, 3, 3, 1}, []int{10, 6, 6, 2}},
		// Here the two indices are not in proportion.
		{"two indices", []int{3, 1, 1, 1, 1}, 4, []int{14, 2, 2, 2, 2}, []int{72, 12, 12, 12, 12}},
		{"six players, the six of 1958", []int{4, 4, 4, 2, 2, 1}, 12, []int{10, 10, 10, 6, 6, 0}, []int{168, 168, 168, 108, 108, 0}},
		{"six equal players, quota 1", same(6, 1), 1, same(6, 1), same(6, 120)},
		{"six equal players, quota 4", same(6, 1), 4, same(6, 10), same(6, 120)},
		{"six heavy players, greatest quota", same(6, 1000), 6000, same(6, 1), same(6, 120)},
		{"six heavy players, quota 3001", same(6, 1000), 3001, same(6, 10), same(6, 120)},
		{"the last one alone", []int{0, 0, 0, 0, 0, 1}, 1, []int{0, 0, 0, 0, 0, 32}, []int{0, 0, 0, 0, 0, 720}},
	}
}

func TestCheck(t *testing.T) {
	for _, c := range invalid() {
		if e := power.Check(c.w, c.quota); e != c.e {
			t.Errorf("%s: Check(%v, %d) = %d, want %d", c.name, c.w, c.quota, e, c.e)
		}
	}
	for _, c := range examples() {
		if e := power.Check(c.w, c.quota); e != api.OK {
			t.Errorf("%s: Check(%v, %d) = %d", c.name, c.w, c.quota, e)
		}
	}
}

func TestCheckAtItsLimits(t *testing.T) {
	for n := 1; n <= 6; n++ {
		for _, weight := range []int{1, 2, 999, 1000} {
			w := same(n, weight)
			for quota := -1; quota <= total(w)+2; quota++ {
				want := api.OK
				if quota < 1 || quota > total(w) {
					want = api.ErrForm
				}
				if e := power.Check(w, quota); e != want {
					t.Errorf("Check(%v, %d) = %d, want %d", w, quota, e, want)
				}
			}
		}
	}
}

// TestCheckOfEachPlayer puts a wrong weight at each place, and then the only
// weight at each place.
func TestCheckOfEachPlayer(t *testing.T) {
	for n := 1; n <= 6; n++ {
		for i := range n {
			for _, wrong := range []int{-1, 1001} {
				w := same(n, 7)
				w[i] = wrong
				if e := power.Check(w, 5); e != api.ErrArg {
					t.Errorf("Check(%v, 5) = %d", w, e)
				}
			}
			w := same(n, 0)
			w[i] = 1
			if e := power.Check(w, 1); e != api.OK {
				t.Errorf("Check(%v, 1) = %d", w, e)
			}
			if e := power.Check(w, 2); e != api.ErrForm {
				t.Errorf("Check(%v, 2) = %d", w, e)
			}
		}
	}
}

// wins says of a coalition of the listed players what P30 says of it.
func wins(w []int, quota int, members []int) bool {
	sum := 0
	for _, i := range members {
		sum += w[i]
	}
	return sum >= quota
}

// members returns the players of a coalition, by division.
func members(set int) []int {
	var all []int
	for i := 0; set > 0; i++ {
		if set%2 == 1 {
			all = append(all, i)
		}
		set /= 2
	}
	return all
}

func TestWinsOfAnExample(t *testing.T) {
	want := []bool{false, false, false, true, false, true, false, true}
	for set := range want {
		if x, e := power.Wins([]int{2, 1, 1}, 3, set); x != want[set] || e != api.OK {
			t.Errorf("Wins([2 1 1], 3, %d) = %v, %d", set, x, e)
		}
	}
}

func TestWins(t *testing.T) {
	for _, w := range manyWeights(1) {
		for _, quota := range quotas(w) {
			for set := range 1 << len(w) {
				want := wins(w, quota, members(set))
				if x, e := power.Wins(w, quota, set); x != want || e != api.OK {
					t.Fatalf("Wins(%v, %d, %d) = %v, %d, want %v", w, quota, set, x, e, want)
				}
			}
		}
	}
}

func TestWinsOfWrongSets(t *testing.T) {
	for n := 1; n <= 6; n++ {
		w := same(n, 3)
		if x, e := power.Wins(w, 1, 1<<n-1); !x || e != api.OK {
			t.Errorf("Wins(%v, 1, %d) = %v, %d", w, 1<<n-1, x, e)
		}
		if x, e := power.Wins(w, 1, 0); x || e != api.OK {
			t.Errorf("Wins(%v, 1, 0) = %v, %d", w, x, e)
		}
		for _, set := range []int{math.MinInt, -1 << 32, -2, -1, 1 << n, 1<<n + 1, 1<<(n+1) - 1, 1 << 32, math.MaxInt} {
			if x, e := power.Wins(w, 1, set); x || e != api.ErrArg {
				t.Errorf("Wins(%v, 1, %d) = %v, %d", w, set, x, e)
			}
		}
	}
}

// TestWinsOfWrongGames holds that an error of the game comes before one of the
// coalition.
func TestWinsOfWrongGames(t *testing.T) {
	for _, c := range invalid() {
		for _, set := range []int{math.MinInt, -1, 0, 1, 3, 64, 1 << 7, math.MaxInt} {
			if x, e := power.Wins(c.w, c.quota, set); x || e != c.e {
				t.Errorf("%s: Wins(%v, %d, %d) = %v, %d, want %d", c.name, c.w, c.quota, set, x, e, c.e)
			}
		}
	}
}

func TestSwingsAndTurns(t *testing.T) {
	for _, c := range examples() {
		if l, e := power.Swings(c.w, c.quota); !slices.Equal(l, c.swings) || e != api.OK {
			t.Errorf("%s: Swings(%v, %d) = %v, %d, want %v", c.name, c.w, c.quota, l, e, c.swings)
		}
		if l, e := power.Turns(c.w, c.quota); !slices.Equal(l, c.turns) || e != api.OK {
			t.Errorf("%s: Turns(%v, %d) = %v, %d, want %v", c.name, c.w, c.quota, l, e, c.turns)
		}
	}
}

func TestSwingsAndTurnsOfWrongGames(t *testing.T) {
	for _, c := range invalid() {
		if l, e := power.Swings(c.w, c.quota); len(l) != 0 || e != c.e {
			t.Errorf("%s: Swings(%v, %d) = %v, %d, want %d", c.name, c.w, c.quota, l, e, c.e)
		}
		if l, e := power.Turns(c.w, c.quota); len(l) != 0 || e != c.e {
			t.Errorf("%s: Turns(%v, %d) = %v, %d, want %d", c.name, c.w, c.quota, l, e, c.e)
		}
	}
}

// without returns the list without one number.
func without(l []int, x int) []int {
	return slices.DeleteFunc(slices.Clone(l), func(y int) bool { return x == y })
}

// expectedSwings counts as P31 says it, coalition by coalition.
func expectedSwings(w []int, quota int) []int {
	counts := make([]int, len(w))
	for set := range 1 << len(w) {
		all := members(set)
		for _, i := range all {
			if wins(w, quota, all) && !wins(w, quota, without(all, i)) {
				counts[i]++
			}
		}
	}
	return counts
}

// orders returns all orders of n players.
func orders(n int) [][]int {
	all := [][]int{nil}
	for i := range n {
		var longer [][]int
		for _, l := range all {
			for at := range i + 1 {
				longer = append(longer, slices.Insert(slices.Clone(l), at, i))
			}
		}
		all = longer
	}
	return all
}

// expectedTurns counts as P32 says it, order by order.
func expectedTurns(w []int, quota int) []int {
	counts := make([]int, len(w))
	for _, order := range orders(len(w)) {
		for k, i := range order {
			if wins(w, quota, order[:k+1]) && !wins(w, quota, order[:k]) {
				counts[i]++
			}
		}
	}
	return counts
}

// checkGame holds the two results against what they must be.
func checkGame(t *testing.T, w []int, quota int) {
	want := expectedSwings(w, quota)
	if l, e := power.Swings(w, quota); !slices.Equal(l, want) || e != api.OK {
		t.Fatalf("Swings(%v, %d) = %v, %d, want %v", w, quota, l, e, want)
	}
	want = expectedTurns(w, quota)
	if l, e := power.Turns(w, quota); !slices.Equal(l, want) || e != api.OK {
		t.Fatalf("Turns(%v, %d) = %v, %d, want %v", w, quota, l, e, want)
	}
}

// lists returns all lists of n numbers below limit.
func lists(n, limit int) [][]int {
	all := [][]int{nil}
	for range n {
		var longer [][]int
		for _, l := range all {
			for x := range limit {
				longer = append(longer, append(slices.Clone(l), x))
			}
		}
		all = longer
	}
	return all
}

func TestSmallGames(t *testing.T) {
	for n, limit := range []int{0, 10, 7, 5, 3} {
		for _, w := range lists(n, limit) {
			for quota := 1; quota <= total(w); quota++ {
				checkGame(t, w, quota)
			}
		}
	}
}

// manyWeights returns players with weights by chance, but the same ones at
// each run.
func manyWeights(seed int64) [][]int {
	chance := rand.New(rand.NewSource(seed))
	var all [][]int
	for n := 1; n <= 6; n++ {
		for _, most := range []int{1, 4, 30, 1000} {
			for range 3 {
				w := make([]int, n)
				for i := range w {
					w[i] = chance.Intn(most + 1)
				}
				w[chance.Intn(n)] = most
				all = append(all, w)
			}
		}
	}
	return all
}

// quotas returns some right quotas: the limits, those around a half, and those
// around the greatest weight.
func quotas(w []int) []int {
	var right []int
	half, heaviest := total(w)/2, slices.Max(w)
	for _, quota := range []int{1, 2, half, half + 1, heaviest, heaviest + 1, total(w) - 1, total(w)} {
		if quota >= 1 && quota <= total(w) {
			right = append(right, quota)
		}
	}
	return right
}

func TestManyGames(t *testing.T) {
	for _, w := range manyWeights(2) {
		for _, quota := range quotas(w) {
			checkGame(t, w, quota)
		}
	}
}

// TestIndices holds that each order has one critical arrival, that players
// without weight have no power, that a heavier player has no less, and that
// one of the indices is 0 only if both are.
func TestIndices(t *testing.T) {
	factorials := []int{1, 1, 2, 6, 24, 120, 720}
	for _, w := range manyWeights(3) {
		for _, quota := range quotas(w) {
			swings, _ := power.Swings(w, quota)
			turns, _ := power.Turns(w, quota)
			if total(turns) != factorials[len(w)] {
				t.Fatalf("Turns(%v, %d) = %v: together %d", w, quota, turns, total(turns))
			}
			for i := range w {
				if w[i] == 0 && turns[i] != 0 || (swings[i] == 0) != (turns[i] == 0) {
					t.Fatalf("Swings and Turns of %v, %d: %v, %v", w, quota, swings, turns)
				}
				for j := range w {
					if w[i] >= w[j] && (swings[i] < swings[j] || turns[i] < turns[j]) {
						t.Fatalf("Swings and Turns of %v, %d: %v, %v: less for more", w, quota, swings, turns)
					}
				}
			}
		}
	}
}

// TestPlaces holds the results of a game against those of the same players in
// another order.
func TestPlaces(t *testing.T) {
	chance := rand.New(rand.NewSource(4))
	for _, w := range manyWeights(4) {
		for _, quota := range quotas(w) {
			swings, _ := power.Swings(w, quota)
			turns, _ := power.Turns(w, quota)
			var moved, wantSwings, wantTurns []int
			for _, i := range chance.Perm(len(w)) {
				moved = append(moved, w[i])
				wantSwings = append(wantSwings, swings[i])
				wantTurns = append(wantTurns, turns[i])
			}
			if l, e := power.Swings(moved, quota); !slices.Equal(l, wantSwings) || e != api.OK {
				t.Errorf("Swings(%v, %d) = %v, %d, want %v", moved, quota, l, e, wantSwings)
			}
			if l, e := power.Turns(moved, quota); !slices.Equal(l, wantTurns) || e != api.OK {
				t.Errorf("Turns(%v, %d) = %v, %d, want %v", moved, quota, l, e, wantTurns)
			}
		}
	}
}

// TestDuals holds that the quota that blocks the other one gives everyone the
// same power.
func TestDuals(t *testing.T) {
	for _, w := range manyWeights(5) {
		for _, quota := range quotas(w) {
			blocking := total(w) - quota + 1
			a, _ := power.Swings(w, quota)
			if b, e := power.Swings(w, blocking); !slices.Equal(a, b) || e != api.OK {
				t.Errorf("Swings of %v: %v by %d, %v by %d", w, a, quota, b, blocking)
			}
			a, _ = power.Turns(w, quota)
			if b, e := power.Turns(w, blocking); !slices.Equal(a, b) || e != api.OK {
				t.Errorf("Turns of %v: %v by %d, %v by %d", w, a, quota, b, blocking)
			}
		}
	}
}
