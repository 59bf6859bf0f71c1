package worth_test

import (
	"math"
	"math/rand"
	"slices"
	"testing"

	"feathermark/api"
	"feathermark/worth"
)

// same returns a list of n equal numbers.
func same(n, x int) []int {
	return slices.Repeat([]int{x}, n)
}

// with returns the list with another number at index i.
func with(l []int, i, x int) []int {
	l = slices.Clone(l)
	l[i] = x
	return l
}

// total returns the sum of the numbers.
func total(l []int) int {
	sum := 0
	for _, x := range l {
		sum += x
	}
	return sum
}

// members returns the players of a coalition, by division.
func members(set int) []int {
	var all []int
	for i := 0; set > 0; i++ {
		if set%2 == 1 {
			all = append(all, i)
		}
		set /= 2
	}
	return all
}

// coalition returns the integer for a coalition of the listed players.
func coalition(players ...int) int {
	set := 0
	for _, i := range players {
		power := 1
		for range i {
			power *= 2
		}
		set += power
	}
	return set
}

// sumOf returns the sum of the elements of the listed players.
func sumOf(x, players []int) int {
	sum := 0
	for _, i := range players {
		sum += x[i]
	}
	return sum
}

// additive returns the game in which a coalition is worth what its members
// are worth.
func additive(x []int) []int {
	v := make([]int, 1<<len(x))
	for set := range v {
		v[set] = sumOf(x, members(set))
	}
	return v
}

// orders returns all orders of n players.
func orders(n int) [][]int {
	all := [][]int{nil}
	for i := range n {
		var longer [][]int
		for _, l := range all {
			for at := range i + 1 {
				longer = append(longer, slices.Insert(slices.Clone(l), at, i))
			}
		}
		all = longer
	}
	return all
}

func factorial(n int) int {
	return []int{1, 1, 2, 6, 24, 120, 720}[n]
}

// rejected is a game, and the error that it causes.
type rejected struct {
	name string
	n    int
	v    []int
	e    api.Errno
}

// invalid are games that all functions of the package reject.
func invalid() []rejected {
	return []rejected{
		{"no players, no elements", 0, nil, api.ErrArg},
		{"no players, one element", 0, []int{0}, api.ErrArg},
		{"no players, two elements", 0, []int{0, 1}, api.ErrArg},
		{"n below 0", -1, []int{0, 1}, api.ErrArg},
		{"n below 0, no elements", -1, nil, api.ErrArg},
		{"7 players", 7, same(128, 0), api.ErrArg},
		{"7 players, elements for 6", 7, same(64, 0), api.ErrArg},
		{"63 players", 63, nil, api.ErrArg},
		{"64 players", 64, nil, api.ErrArg},
		{"64 players, one element", 64, []int{0}, api.ErrArg},
		{"65 players", 65, []int{0, 1}, api.ErrArg},
		{"the smallest n of all", math.MinInt, []int{0, 1}, api.ErrArg},
		{"the greatest n of all", math.MaxInt, []int{0, 1}, api.ErrArg},
		{"n too great, all else wrong, too", 7, []int{5, 1000001}, api.ErrArg},
		{"no elements for one", 1, nil, api.ErrForm},
		{"no elements for 6", 6, []int{}, api.ErrForm},
		{"one element for one", 1, []int{0}, api.ErrForm},
		{"three elements for one", 1, []int{0, 1, 2}, api.ErrForm},
		{"two elements for two", 2, []int{0, 1}, api.ErrForm},
		{"three elements for two", 2, []int{0, 1, 2}, api.ErrForm},
		{"five elements for two", 2, []int{0, 1, 2, 3, 4}, api.ErrForm},
		{"63 elements for 6", 6, same(63, 0), api.ErrForm},
		{"65 elements for 6", 6, same(65, 0), api.ErrForm},
		{"128 elements for 6", 6, same(128, 0), api.ErrForm},
		{"elements for 6 players, 5 of them", 5, same(64, 0), api.ErrForm},
		{"too few, one too great", 2, []int{0, 1000001}, api.ErrForm},
		{"too many, one too small", 1, []int{0, 1, -1000001}, api.ErrForm},
		{"too many, the first not 0", 1, []int{1, 1, 1}, api.ErrForm},
		{"too great", 1, []int{0, 1000001}, api.ErrArg},
		{"too small", 1, []int{0, -1000001}, api.ErrArg},
		{"the greatest number of all", 2, []int{0, 1, 2, math.MaxInt}, api.ErrArg},
		{"the smallest number of all", 2, []int{0, math.MinInt, 1, 2}, api.ErrArg},
		{"the first too great", 1, []int{1000001, 0}, api.ErrArg},
		{"the first too small", 1, []int{-1000001, 0}, api.ErrArg},
		{"the first not 0, the last too great", 2, []int{1, 0, 0, 1000001}, api.ErrArg},
		{"the first not 0, the last too small", 2, []int{-1, 0, 0, -1000001}, api.ErrArg},
		{"the first 1", 2, []int{1, 0, 0, 0}, api.ErrForm},
		{"the first -1", 2, []int{-1, 0, 0, 0}, api.ErrForm},
		{"the first as great as may be", 1, []int{1000000, 1}, api.ErrForm},
		{"the first as small as may be", 1, []int{-1000000, 1}, api.ErrForm},
		{"the first not 0 of 64", 6, with(same(64, 0), 0, 1), api.ErrForm},
	}
}

// example is a game, and what Share and Round return for it.
type example struct {
	name  string
	n     int
	v     []int
	share []int
	round bool
}

func examples() []example {
	return []example{
		{"the chapter's", 2, []int{0, 1, 2, 5}, []int{4, 6}, true},
		{"one player", 1, []int{0, 7}, []int{7}, true},
		{"one player, in debt", 1, []int{0, -7}, []int{-7}, true},
		{"one player with the most", 1, []int{0, 1000000}, []int{1000000}, true},
		{"one player with the least", 1, []int{0, -1000000}, []int{-1000000}, true},
		{"two who lose together", 2, []int{0, 3, 3, 5}, []int{5, 5}, false},
		{"two alone", 2, []int{0, 3, 4, 7}, []int{6, 8}, true},
		{"nothing for 6", 6, same(64, 0), same(6, 0), true},
		{"a left glove and two right ones", 3, []int{0, 0, 0, 1, 0, 1, 0, 1}, []int{4, 1, 1}, false},
		{"two of three", 3, []int{0, 0, 0, 1, 0, 1, 1, 1}, []int{2, 2, 2}, false},
		{"all three", 3, []int{0, 0, 0, 0, 0, 0, 0, 1}, []int{2, 2, 2}, true},
		{"three who pay for a runway", 3, []int{0, -1, -2, -2, -3, -3, -3, -3}, []int{-2, -5, -11}, true},
		{"three, all different", 3, []int{0, 10, 20, 40, 30, 60, 70, 120}, []int{170, 230, 320}, true},
		// Whoever comes first contributes as little as possible, and the second one
		// as much as possible; or the other way around.
		{"the farthest leap", 2, []int{0, -1000000, -1000000, 1000000}, []int{1000000, 1000000}, true},
		{"the deepest fall", 2, []int{0, 1000000, 1000000, -1000000}, []int{-1000000, -1000000}, false},
		// No sum of contributions is greater than player 0's: 600 times 2000000, and
		// 120 times 1000000, because the empty coalition's value is 0.
		{"all that one brings", 6, oneBringsAll(), []int{1320000000, -120000000, -120000000, -120000000, -120000000, -120000000}, true},
	}
}

// oneBringsAll returns the game of six players in which player 0 turns the
// least into the most.
func oneBringsAll() []int {
	v := same(64, -1000000)
	for set := 1; set < 64; set += 2 {
		v[set] = 1000000
	}
	v[0] = 0
	return v
}

func TestCheck(t *testing.T) {
	for _, c := range invalid() {
		if e := worth.Check(c.n, c.v); e != c.e {
			t.Errorf("%s: Check(%d, %v) = %d, want %d", c.name, c.n, c.v, e, c.e)
		}
	}
	for _, c := range examples() {
		if e := worth.Check(c.n, c.v); e != api.OK {
			t.Errorf("%s: Check(%d, %v) = %d", c.name, c.n, c.v, e)
		}
	}
}

func TestCheckOfEachLength(t *testing.T) {
	sizes := []int{1: 2, 2: 4, 3: 8, 4: 16, 5: 32, 6: 64}
	for n := -2; n <= 9; n++ {
		for size := range 300 {
			want := api.ErrForm
			if n < 1 || n > 6 {
				want = api.ErrArg
			} else if sizes[n] == size {
				want = api.OK
			}
			if e := worth.Check(n, same(size, 0)); e != want {
				t.Errorf("Check(%d, %d zeros) = %d, want %d", n, size, e, want)
			}
		}
	}
}

// TestCheckOfEachElement puts a number at the limits, and beyond them, at each
// place.
func TestCheckOfEachElement(t *testing.T) {
	for n := 1; n <= 6; n++ {
		zeros := same(1<<n, 0)
		for i := range zeros {
			want := api.OK
			if i == 0 {
				want = api.ErrForm
			}
			for _, x := range []int{-1000000, -999999, -1, 1, 999999, 1000000} {
				if e := worth.Check(n, with(zeros, i, x)); e != want {
					t.Errorf("Check of %d players, %d at %d = %d, want %d", n, x, i, e, want)
				}
			}
			for _, x := range []int{math.MinInt, -1000001, 1000001, math.MaxInt} {
				if e := worth.Check(n, with(zeros, i, x)); e != api.ErrArg {
					t.Errorf("Check of %d players, %d at %d = %d", n, x, i, e)
				}
			}
		}
	}
}

// kind of games that a test tries.
type kind func(*rand.Rand, int) []int

// anyGame returns a game with values in the range -most to most.
func anyGame(most int) kind {
	return func(chance *rand.Rand, n int) []int {
		v := make([]int, 1<<n)
		for set := 1; set < len(v); set++ {
			v[set] = chance.Intn(2*most+1) - most
		}
		return v
	}
}

// convexGame returns a sum of bonuses, each for the coalitions that contain
// certain players: these sums are convex as long as only bonuses of single
// players are below 0.
func convexGame(chance *rand.Rand, n int) []int {
	v := make([]int, 1<<n)
	for base := 1; base < len(v); base++ {
		bonus := chance.Intn(6)
		if len(members(base)) == 1 {
			bonus = chance.Intn(21) - 10
		}
		for set := range v {
			if set&base == base {
				v[set] += bonus
			}
		}
	}
	return v
}

// nearlyConvexGame returns a convex game with one value changed a little.
func nearlyConvexGame(chance *rand.Rand, n int) []int {
	v := convexGame(chance, n)
	v[1+chance.Intn(len(v)-1)] += chance.Intn(9) - 4
	return v
}

// additiveGame returns a game in which only the members count.
func additiveGame(chance *rand.Rand, n int) []int {
	x := make([]int, n)
	for i := range x {
		x[i] = chance.Intn(201) - 100
	}
	return additive(x)
}

// manyGames returns games by chance, but the same ones at each run.
func manyGames(seed int64) [][]int {
	chance := rand.New(rand.NewSource(seed))
	kinds := []kind{anyGame(1), anyGame(5), anyGame(1000000), convexGame, nearlyConvexGame, additiveGame}
	var all [][]int
	for n := 1; n <= 6; n++ {
		for _, k := range kinds {
			for range 4 {
				all = append(all, k(chance, n))
			}
		}
	}
	return all
}

// players returns the number of players of a game.
func players(v []int) int {
	return len(members(len(v) - 1))
}

func TestShare(t *testing.T) {
	for _, c := range examples() {
		if l, e := worth.Share(c.n, c.v); !slices.Equal(l, c.share) || e != api.OK {
			t.Errorf("%s: Share(%d, %v) = %v, %d, want %v", c.name, c.n, c.v, l, e, c.share)
		}
	}
}

func TestShareOfWrongGames(t *testing.T) {
	for _, c := range invalid() {
		if l, e := worth.Share(c.n, c.v); len(l) != 0 || e != c.e {
			t.Errorf("%s: Share(%d, %v) = %v, %d, want %d", c.name, c.n, c.v, l, e, c.e)
		}
	}
}

// expectedShare goes through the coalitions, not through the orders: a player
// is the last one of a coalition to arrive in as many orders as the others
// have before it, times those of all who come later.
func expectedShare(n int, v []int) []int {
	sums := make([]int, n)
	for set := range v {
		all := members(set)
		for _, i := range all {
			times := factorial(len(all)-1) * factorial(n-len(all))
			sums[i] += times * (v[set] - v[set-coalition(i)])
		}
	}
	return sums
}

func TestShareOfManyGames(t *testing.T) {
	for _, v := range manyGames(1) {
		n := players(v)
		want := expectedShare(n, v)
		if l, e := worth.Share(n, v); !slices.Equal(l, want) || e != api.OK {
			t.Fatalf("Share(%d, %v) = %v, %d, want %v", n, v, l, e, want)
		}
	}
}

// TestShareIsAll holds that the shares add up to the value of all players
// together, once an order.
func TestShareIsAll(t *testing.T) {
	for _, v := range manyGames(2) {
		n := players(v)
		l, _ := worth.Share(n, v)
		if total(l) != factorial(n)*v[len(v)-1] {
			t.Errorf("Share(%d, %v) = %v: together %d", n, v, l, total(l))
		}
	}
}

// TestShareOfMembersWorth holds that each player has its own worth in each
// order if only the members count.
func TestShareOfMembersWorth(t *testing.T) {
	x := []int{5, -3, 0, 100000, -166666, 1}
	for n := 1; n <= 6; n++ {
		v := additive(x[:n])
		l, e := worth.Share(n, v)
		for i := range l {
			if l[i] != factorial(n)*x[i] || e != api.OK {
				t.Errorf("Share(%d, %v) = %v, %d", n, v, l, e)
			}
		}
	}
}

// moved returns the game in which player i is called to[i].
func moved(v, to []int) []int {
	w := make([]int, len(v))
	for set := range v {
		var names []int
		for _, i := range members(set) {
			names = append(names, to[i])
		}
		w[coalition(names...)] = v[set]
	}
	return w
}

// TestPlaces holds the results of a game against those of the same players
// with other numbers.
func TestPlaces(t *testing.T) {
	chance := rand.New(rand.NewSource(3))
	for _, v := range manyGames(3) {
		n := players(v)
		to := chance.Perm(n)
		w := moved(v, to)
		before, _ := worth.Share(n, v)
		after, _ := worth.Share(n, w)
		for i := range before {
			if before[i] != after[to[i]] {
				t.Errorf("Share of %v: %v; of %v: %v", v, before, w, after)
			}
		}
		round, _ := worth.Round(n, v)
		if x, e := worth.Round(n, w); x != round || e != api.OK {
			t.Errorf("Round(%d, %v) = %v, %d; of %v: %v", n, w, x, e, v, round)
		}
	}
}

func TestRow(t *testing.T) {
	v := []int{0, 1, 10, 100, 1000, 10000, 100000, 1000000}
	cases := []struct{ row, want []int }{
		{[]int{0, 1, 2}, []int{1, 99, 999900}},
		{[]int{0, 2, 1}, []int{1, 990000, 9999}},
		{[]int{1, 0, 2}, []int{90, 10, 999900}},
		{[]int{1, 2, 0}, []int{900000, 10, 99990}},
		{[]int{2, 0, 1}, []int{9000, 990000, 1000}},
		{[]int{2, 1, 0}, []int{900000, 99000, 1000}},
	}
	for _, c := range cases {
		if l, e := worth.Row(3, v, c.row); !slices.Equal(l, c.want) || e != api.OK {
			t.Errorf("Row(3, %v, %v) = %v, %d, want %v", v, c.row, l, e, c.want)
		}
	}
	if l, e := worth.Row(1, []int{0, -4}, []int{0}); !slices.Equal(l, []int{-4}) || e != api.OK {
		t.Errorf("Row(1, [0 -4], [0]) = %v, %d", l, e)
	}
}

// expectedRow takes each player's contribution by itself, from those who come
// before it.
func expectedRow(v, row []int) []int {
	l := make([]int, len(row))
	for i := range l {
		at := slices.Index(row, i)
		l[i] = v[coalition(row[:at+1]...)] - v[coalition(row[:at]...)]
	}
	return l
}

// TestRowOfManyGames holds, too, that the rows add up to the shares.
func TestRowOfManyGames(t *testing.T) {
	for _, v := range manyGames(4) {
		n := players(v)
		sums := make([]int, n)
		for _, row := range orders(n) {
			want := expectedRow(v, row)
			l, e := worth.Row(n, v, row)
			if !slices.Equal(l, want) || e != api.OK {
				t.Fatalf("Row(%d, %v, %v) = %v, %d, want %v", n, v, row, l, e, want)
			}
			for i, x := range l {
				sums[i] += x
			}
		}
		if l, _ := worth.Share(n, v); !slices.Equal(l, sums) {
			t.Errorf("Share(%d, %v) = %v, but the rows together are %v", n, v, l, sums)
		}
	}
}

// wrongRows are lists that don't contain each of three players once.
func wrongRows() [][]int {
	return [][]int{
		nil, {}, {0}, {0, 1}, {0, 1, 2, 3}, {0, 1, 2, 2}, {0, 1, 2, 0}, {0, 0, 0}, {0, 1, 1},
		{1, 1, 2}, {2, 1, 2}, {1, 2, 3}, {0, 1, 3}, {-1, 0, 1}, {0, -1, 2}, {0, 1, math.MaxInt},
		{math.MinInt, 1, 2}, {0, 1, 64}, {64, 65, 66}, {0, 1, 2, 3, 4, 5}, same(1000, 1),
	}
}

func TestRowOfWrongRows(t *testing.T) {
	v := []int{0, 1, 2, 4, 3, 6, 7, 9}
	for _, row := range wrongRows() {
		if l, e := worth.Row(3, v, row); len(l) != 0 || e != api.ErrForm {
			t.Errorf("Row(3, %v, %v) = %v, %d", v, row, l, e)
		}
	}
	for n := 1; n <= 6; n++ {
		for i := range n {
			right := orders(n)[0]
			for _, x := range []int{-1, n, n + 1, right[(i+1)%n]} {
				if x == right[i] {
					continue
				}
				if l, e := worth.Row(n, same(1<<n, 0), with(right, i, x)); len(l) != 0 || e != api.ErrForm {
					t.Errorf("Row of %d players in the order %v = %v, %d", n, with(right, i, x), l, e)
				}
			}
		}
	}
}

// TestRowOfWrongGames holds that an error of the game comes before one of the
// row.
func TestRowOfWrongGames(t *testing.T) {
	for _, c := range invalid() {
		for _, row := range append(wrongRows(), []int{0, 1, 2}) {
			if l, e := worth.Row(c.n, c.v, row); len(l) != 0 || e != c.e {
				t.Errorf("%s: Row(%d, %v, %v) = %v, %d, want %d", c.name, c.n, c.v, row, l, e, c.e)
			}
		}
	}
}

func TestHolds(t *testing.T) {
	chapter := []int{0, 1, 2, 5}
	glove := []int{0, 0, 0, 1, 0, 1, 0, 1}
	cases := []struct {
		name string
		v, x []int
		want bool
	}{
		{"all is shared", chapter, []int{2, 3}, true},
		{"as little as one accepts", chapter, []int{1, 4}, true},
		{"as little as the other one accepts", chapter, []int{3, 2}, true},
		{"too little for one", chapter, []int{0, 5}, false},
		{"too little for the other one", chapter, []int{4, 1}, false},
		{"too little for both together", chapter, []int{2, 2}, false},
		{"too much for both together", chapter, []int{3, 3}, false},
		{"nothing", chapter, []int{0, 0}, false},
		{"one player", []int{0, 7}, []int{7}, true},
		{"one player, too little", []int{0, 7}, []int{6}, false},
		{"one player, too much", []int{0, 7}, []int{8}, false},
		{"one player, in debt", []int{0, -7}, []int{-7}, true},
		{"one player, in debt, gets nothing", []int{0, -7}, []int{0}, false},
		{"the left glove gets all", glove, []int{1, 0, 0}, true},
		{"the right glove gets all", glove, []int{0, 1, 0}, false},
		{"one pays, another one gets more", glove, []int{2, 0, -1}, false},
		{"only equal shares are right", []int{0, 0, 0, 2, 0, 2, 2, 3}, []int{1, 1, 1}, true},
		{"one gets more than equal shares", []int{0, 0, 0, 2, 0, 2, 2, 3}, []int{1, 2, 0}, false},
		{"no shares are right", []int{0, 0, 0, 2, 0, 2, 2, 2}, []int{1, 1, 0}, false},
		{"a division of debts", []int{0, -5, -5, -9}, []int{-5, -4}, true},
		{"too many debts for one", []int{0, -5, -5, -9}, []int{-6, -3}, false},
		{"the limits of x", []int{0, -1000000, -1000000, 0}, []int{1000000000, -1000000000}, false},
		{"far below the values", []int{0, 0, 0, 0}, []int{-1000000000, -1000000000}, false},
		{"far above the values", []int{0, 0, 0, 0}, []int{1000000000, 1000000000}, false},
	}
	for _, c := range cases {
		if x, e := worth.Holds(players(c.v), c.v, c.x); x != c.want || e != api.OK {
			t.Errorf("%s: Holds(%d, %v, %v) = %v, %d", c.name, players(c.v), c.v, c.x, x, e)
		}
	}
}

// TestHoldsForEachCoalition lets exactly one coalition have too little, or more
// than it needs, by 1.
func TestHoldsForEachCoalition(t *testing.T) {
	x := []int{5, -3, 0, 1000, -1700, 1}
	for n := 1; n <= 6; n++ {
		v := additive(x[:n])
		for set := 1; set < len(v); set++ {
			everybody := set == len(v)-1
			more, less := with(v, set, v[set]+1), with(v, set, v[set]-1)
			if ok, e := worth.Holds(n, more, x[:n]); ok || e != api.OK {
				t.Errorf("Holds(%d, %v, %v) = %v, %d", n, more, x[:n], ok, e)
			}
			if ok, e := worth.Holds(n, less, x[:n]); ok == everybody || e != api.OK {
				t.Errorf("Holds(%d, %v, %v) = %v, %d", n, less, x[:n], ok, e)
			}
		}
		if ok, e := worth.Holds(n, v, x[:n]); !ok || e != api.OK {
			t.Errorf("Holds(%d, %v, %v) = %v, %d", n, v, x[:n], ok, e)
		}
	}
}

// expectedHolds says what P36 says, coalition by coalition.
func expectedHolds(v, x []int) bool {
	for set := range v {
		if sumOf(x, members(set)) < v[set] {
			return false
		}
	}
	return total(x) == v[len(v)-1]
}

// divisions returns some lists for a game: two rows, one of them with a bit of
// one share moved to another, and shares with what is missing added to one.
func divisions(chance *rand.Rand, v []int) [][]int {
	n := players(v)
	row := expectedRow(v, chance.Perm(n))
	shifted := slices.Clone(row)
	much := 1 + chance.Intn(3)
	shifted[chance.Intn(n)] += much
	shifted[chance.Intn(n)] -= much
	rounded := expectedShare(n, v)
	for i := range rounded {
		rounded[i] /= factorial(n)
	}
	rounded[chance.Intn(n)] += v[len(v)-1] - total(rounded)
	lessened := slices.Clone(rounded)
	lessened[chance.Intn(n)]--
	return [][]int{expectedRow(v, chance.Perm(n)), row, shifted, rounded, lessened, make([]int, n)}
}

func TestHoldsOfManyGames(t *testing.T) {
	chance := rand.New(rand.NewSource(5))
	counts := map[bool]int{}
	for _, v := range manyGames(5) {
		for _, x := range divisions(chance, v) {
			want := expectedHolds(v, x)
			counts[want]++
			if ok, e := worth.Holds(players(v), v, x); ok != want || e != api.OK {
				t.Fatalf("Holds(%d, %v, %v) = %v, %d, want %v", players(v), v, x, ok, e, want)
			}
		}
	}
	if counts[true] < 50 || counts[false] < 50 {
		t.Errorf("too few cases of a kind: %v", counts)
	}
}

func TestHoldsOfWrongLists(t *testing.T) {
	cases := []struct {
		name string
		x    []int
		e    api.Errno
	}{
		{"nil", nil, api.ErrForm},
		{"no elements", []int{}, api.ErrForm},
		{"one element", []int{5}, api.ErrForm},
		{"three elements", []int{2, 3, 0}, api.ErrForm},
		{"an element for each coalition", []int{0, 1, 2, 5}, api.ErrForm},
		{"many elements", same(1000, 1), api.ErrForm},
		{"one element, too great", []int{1000000001}, api.ErrForm},
		{"three elements, one too small", []int{2, 3, -1000000001}, api.ErrForm},
		{"the first too great", []int{1000000001, 4}, api.ErrArg},
		{"the first too small", []int{-1000000001, 4}, api.ErrArg},
		{"the second too great", []int{1, 1000000001}, api.ErrArg},
		{"the second too small", []int{1, -1000000001}, api.ErrArg},
		{"the greatest number of all", []int{math.MaxInt, 4}, api.ErrArg},
		{"the smallest number of all", []int{1, math.MinInt}, api.ErrArg},
		// The sum would be right.
		{"two that cancel out", []int{1000000006, -1000000001}, api.ErrArg},
		{"the limits", []int{1000000000, -1000000000}, api.OK},
		{"the limits, the other way around", []int{-1000000000, 1000000000}, api.OK},
	}
	for _, c := range cases {
		if ok, e := worth.Holds(2, []int{0, 1, 2, 5}, c.x); ok || e != c.e {
			t.Errorf("%s: Holds(2, [0 1 2 5], %v) = %v, %d, want %d", c.name, c.x, ok, e, c.e)
		}
	}
}

// TestHoldsOfWrongGames holds that an error of the game comes before one of
// the list.
func TestHoldsOfWrongGames(t *testing.T) {
	for _, c := range invalid() {
		for _, x := range [][]int{nil, {0}, {0, 0}, {1000000001}, same(6, 0), same(6, math.MinInt), same(7, 0)} {
			if ok, e := worth.Holds(c.n, c.v, x); ok || e != c.e {
				t.Errorf("%s: Holds(%d, %v, %v) = %v, %d, want %d", c.name, c.n, c.v, x, ok, e, c.e)
			}
		}
	}
}

func TestRound(t *testing.T) {
	for _, c := range examples() {
		if x, e := worth.Round(c.n, c.v); x != c.round || e != api.OK {
			t.Errorf("%s: Round(%d, %v) = %v, %d", c.name, c.n, c.v, x, e)
		}
	}
}

func TestRoundOfWrongGames(t *testing.T) {
	for _, c := range invalid() {
		if x, e := worth.Round(c.n, c.v); x || e != c.e {
			t.Errorf("%s: Round(%d, %v) = %v, %d, want %d", c.name, c.n, c.v, x, e, c.e)
		}
	}
}

// expectedRound holds that no player contributes less to a coalition when
// another player has joined it, which is convexity, told in another way.
func expectedRound(n int, v []int) bool {
	for set := range v {
		for i := range n {
			for j := range n {
				here := members(set)
				if i == j || slices.Contains(here, i) || slices.Contains(here, j) {
					continue
				}
				a, b := coalition(i), coalition(j)
				if v[set+a+b]-v[set+b] < v[set+a]-v[set] {
					return false
				}
			}
		}
	}
	return true
}

func TestRoundOfManyGames(t *testing.T) {
	counts := map[bool]int{}
	for _, v := range manyGames(6) {
		n := players(v)
		want := expectedRound(n, v)
		counts[want]++
		if x, e := worth.Round(n, v); x != want || e != api.OK {
			t.Fatalf("Round(%d, %v) = %v, %d, want %v", n, v, x, e, want)
		}
	}
	if counts[true] < 30 || counts[false] < 30 {
		t.Errorf("too few games of a kind: %v", counts)
	}
}

// TestRoundForEachCoalition changes the value of one coalition by 1, where all
// sums were equal.
func TestRoundForEachCoalition(t *testing.T) {
	x := []int{5, -3, 0, 1000, -1700, 1}
	for n := 1; n <= 6; n++ {
		v := additive(x[:n])
		for set := 1; set < len(v); set++ {
			for _, by := range []int{-1, 1} {
				w := with(v, set, v[set]+by)
				if ok, e := worth.Round(n, w); ok != expectedRound(n, w) || e != api.OK {
					t.Errorf("Round(%d, %v) = %v, %d", n, w, ok, e)
				}
			}
		}
		if ok, e := worth.Round(n, v); !ok || e != api.OK {
			t.Errorf("Round(%d, %v) = %v, %d", n, v, ok, e)
		}
	}
}

// TestRoundByItsRows holds that a game is convex if, and only if, the row of
// each order is in the core.
func TestRoundByItsRows(t *testing.T) {
	for _, v := range manyGames(7) {
		n := players(v)
		all := true
		for _, row := range orders(n) {
			x, _ := worth.Row(n, v, row)
			ok, _ := worth.Holds(n, v, x)
			all = all && ok
		}
		if round, e := worth.Round(n, v); round != all || e != api.OK {
			t.Errorf("Round(%d, %v) = %v, %d; all rows in the core: %v", n, v, round, e, all)
		}
	}
}
