package widest_test

import (
	"math"
	"math/rand"
	"slices"
	"testing"

	"feathermark/api"
	"feathermark/duel"
	"feathermark/order"
	"feathermark/tally"
	"feathermark/widest"
)

// square returns a matrix of n rows, all of it 0.
func square(n int) [][]int {
	m := make([][]int, n)
	for x := range m {
		m[x] = make([]int, n)
	}
	return m
}

// with returns a copy of m in which entry y of row x is v.
func with(m [][]int, x, y, v int) [][]int {
	var l [][]int
	for _, row := range m {
		l = append(l, slices.Clone(row))
	}
	l[x][y] = v
	return l
}

// equal tells whether two matrices have the same entries.
func equal(m, l [][]int) bool {
	return slices.EqualFunc(m, l, slices.Equal)
}

// example is a matrix, its strongest paths, and its winners.
type example struct {
	name    string
	m       [][]int
	paths   [][]int
	winners []int
}

func examples() []example {
	return []example{
		{"alone", [][]int{{0}}, [][]int{{0}}, []int{0}},
		{"no votes", square(3), square(3), []int{0, 1, 2}},
		{"a tie of two", [][]int{{0, 5}, {5, 0}}, square(2), []int{0, 1}},
		{"all against none", [][]int{{0, 0}, {30, 0}}, [][]int{{0, 0}, {30, 0}}, []int{1}},
		{"a close duel", [][]int{{0, 15}, {14, 0}}, [][]int{{0, 15}, {0, 0}}, []int{0}},
		// The strength is the number of votes, not the lead.
		{"a ring with equal leads", [][]int{{0, 9, 1}, {8, 0, 2}, {2, 1, 0}}, [][]int{{0, 9, 2}, {2, 0, 2}, {2, 2, 0}}, []int{0, 2}},
		// By leads instead of votes, 0 would win, too.
		{"a ring of great and small leads", [][]int{{0, 6, 9}, {5, 0, 8}, {10, 0, 0}}, [][]int{{0, 6, 6}, {8, 0, 8}, {10, 6, 0}}, []int{1}},
		{"a ring of equals", [][]int{{0, 2, 1}, {1, 0, 2}, {2, 1, 0}}, [][]int{{0, 2, 2}, {2, 0, 2}, {2, 2, 0}}, []int{0, 1, 2}},
		{"the weakest step back", [][]int{{0, 3, 1}, {1, 0, 4}, {2, 0, 0}}, [][]int{{0, 3, 3}, {2, 0, 4}, {2, 2, 0}}, []int{0}},
		{"one beats all", [][]int{{0, 2, 2}, {1, 0, 2}, {1, 1, 0}}, [][]int{{0, 2, 2}, {0, 0, 2}, {0, 0, 0}}, []int{0}},
		{"the last one beats all", [][]int{{0, 0, 3}, {9, 0, 4}, {5, 7, 0}}, [][]int{{0, 0, 0}, {9, 0, 0}, {7, 7, 0}}, []int{2}},
		// A tie is no step, however many votes it has.
		{"a tie is not a step", [][]int{{0, 30, 1}, {30, 0, 9}, {0, 0, 0}}, [][]int{{0, 0, 1}, {0, 0, 9}, {0, 0, 0}}, []int{0, 1}},
		// Nor is a defeat, though it has more votes than the steps.
		{"a defeat is not a step", [][]int{{0, 29, 3}, {30, 0, 1}, {1, 2, 0}}, [][]int{{0, 2, 3}, {30, 0, 3}, {2, 2, 0}}, []int{1}},
		// The way by two others is stronger than the step.
		{"a long way round", [][]int{{0, 9, 0, 2}, {0, 0, 8, 0}, {0, 0, 0, 7}, {1, 0, 0, 0}}, [][]int{{0, 9, 8, 7}, {0, 0, 8, 7}, {0, 0, 0, 7}, {0, 0, 0, 0}}, []int{0}},
		// Only the whole ring of six leads from each to the one before it.
		{"a ring of six", [][]int{
			{0, 0, 0, 0, 0, 6}, {1, 0, 0, 0, 0, 0}, {0, 2, 0, 0, 0, 0},
			{0, 0, 3, 0, 0, 0}, {0, 0, 0, 4, 0, 0}, {0, 0, 0, 0, 5, 0},
		}, [][]int{
			{0, 2, 3, 4, 5, 6}, {1, 0, 1, 1, 1, 1}, {1, 2, 0, 1, 1, 1},
			{1, 2, 3, 0, 1, 1}, {1, 2, 3, 4, 0, 1}, {1, 2, 3, 4, 5, 0},
		}, []int{0}},
		// 21 voters, as in Schulze's own first example.
		{"Schulze's", [][]int{{0, 8, 14, 10}, {13, 0, 6, 2}, {7, 15, 0, 12}, {11, 19, 9, 0}}, [][]int{{0, 14, 14, 12}, {13, 0, 13, 12}, {13, 15, 0, 12}, {13, 19, 13, 0}}, []int{3}},
		{"two rings of four", [][]int{{0, 5, 0, 0}, {0, 0, 3, 3}, {4, 0, 0, 4}, {3, 0, 0, 0}}, [][]int{{0, 5, 3, 3}, {3, 0, 3, 3}, {4, 4, 0, 4}, {3, 3, 3, 0}}, []int{2}},
		{"a tie above a chain", [][]int{{0, 0, 0, 1}, {2, 0, 0, 0}, {2, 0, 0, 0}, {0, 0, 0, 0}}, [][]int{{0, 0, 0, 1}, {2, 0, 0, 1}, {2, 0, 0, 1}, {0, 0, 0, 0}}, []int{1, 2}},
	}
}

func TestPaths(t *testing.T) {
	for _, c := range examples() {
		if l, e := widest.Paths(c.m); !equal(l, c.paths) || e != api.OK {
			t.Errorf("%s: Paths(%v) = %v, %d, want %v", c.name, c.m, l, e, c.paths)
		}
	}
}

func TestWinners(t *testing.T) {
	for _, c := range examples() {
		if l, e := widest.Winners(c.m); !slices.Equal(l, c.winners) || e != api.OK {
			t.Errorf("%s: Winners(%v) = %v, %d, want %v", c.name, c.m, l, e, c.winners)
		}
	}
}

// smallest returns all matrices of n rows with entries 0 and 1.
func smallest(n int) [][][]int {
	all := [][][]int{square(n)}
	for x := range n {
		for y := range n {
			if x == y {
				continue
			}
			for _, m := range slices.Clone(all) {
				all = append(all, with(m, x, y, 1))
			}
		}
	}
	return all
}

// manyMatrices returns many matrices of n rows: all small ones, and others by
// chance, but the same ones at each run.
func manyMatrices(n int) [][][]int {
	var all [][][]int
	if n <= 4 {
		all = smallest(n)
	}
	chance := rand.New(rand.NewSource(int64(n)))
	for i := range 3000 {
		m := square(n)
		// Few different values make many ties.
		values := []int{2, 3, 5, 31}[i%4]
		for x := range n {
			for y := range n {
				if x != y {
					m[x][y] = chance.Intn(values)
				}
			}
		}
		all = append(all, m)
	}
	return append(all, rings(n, chance)...)
}

// rings returns matrices with few steps, among them a ring of all
// alternatives, so that the strongest paths are long ones.
func rings(n int, chance *rand.Rand) [][][]int {
	var all [][][]int
	for range 1000 {
		m := square(n)
		names := chance.Perm(n)
		for i, x := range names[1:] {
			m[names[i]][x] = 1 + chance.Intn(30)
		}
		if n > 2 {
			m[names[n-1]][names[0]] = 1 + chance.Intn(30)
		}
		if x, y := chance.Intn(n), chance.Intn(n); x != y {
			m[x][y] = chance.Intn(31)
		}
		all = append(all, m)
	}
	return all
}

// strongest tries all paths from x to y that avoid the alternatives of seen,
// as P21 says it, and tells how many steps the strongest one takes.
func strongest(m [][]int, x, y int, seen []int) (strength, steps int) {
	for z := range m {
		if m[x][z] <= m[z][x] || slices.Contains(seen, z) {
			continue
		}
		here, more := m[x][z], 0
		if z != y {
			rest, count := strongest(m, z, y, append(slices.Clone(seen), z))
			here, more = min(here, rest), count
		}
		if here > strength {
			strength, steps = here, more+1
		}
	}
	return strength, steps
}

// strongestPaths returns the matrix of P21, and the number of steps of the
// longest of its paths.
func strongestPaths(m [][]int) (paths [][]int, longest int) {
	paths = square(len(m))
	for x := range m {
		for y := range m {
			if x != y {
				strength, steps := strongest(m, x, y, []int{x})
				paths[x][y] = strength
				longest = max(longest, steps)
			}
		}
	}
	return paths, longest
}

func TestPathsOfManyMatrices(t *testing.T) {
	for n := 1; n <= 6; n++ {
		longest := 0
		for _, m := range manyMatrices(n) {
			want, steps := strongestPaths(m)
			longest = max(longest, steps)
			if l, e := widest.Paths(m); !equal(l, want) || e != api.OK {
				t.Fatalf("Paths(%v) = %v, %d, want %v", m, l, e, want)
			}
		}
		if longest != n-1 {
			t.Errorf("%d alternatives: the longest path takes %d steps", n, longest)
		}
	}
}

// unbeaten returns the winners as P22 says it, from the paths that are tried
// one by one.
func unbeaten(m [][]int) []int {
	paths, _ := strongestPaths(m)
	var l []int
	for x := range m {
		weaker := 0
		for y := range m {
			if y != x && paths[x][y] < paths[y][x] {
				weaker++
			}
		}
		if weaker == 0 {
			l = append(l, x)
		}
	}
	return l
}

func TestWinnersOfManyMatrices(t *testing.T) {
	for n := 1; n <= 6; n++ {
		sizes := make([]int, n+1)
		for _, m := range manyMatrices(n) {
			want := unbeaten(m)
			sizes[len(want)]++
			if l, e := widest.Winners(m); !slices.Equal(l, want) || e != api.OK {
				t.Fatalf("Winners(%v) = %v, %d, want %v", m, l, e, want)
			}
		}
		if sizes[0] != 0 || slices.Contains(sizes[1:], 0) {
			t.Errorf("%d alternatives: numbers of winners %v", n, sizes)
		}
	}
}

// TestBeaterIsTheWinner is the chapter's example: an alternative that beats
// all others is the only winner.
func TestBeaterIsTheWinner(t *testing.T) {
	for n := 1; n <= 6; n++ {
		count := 0
		for _, m := range manyMatrices(n) {
			wins, _ := duel.Wins(m)
			x := slices.Index(wins, n-1)
			if x < 0 {
				continue
			}
			count++
			if l, e := widest.Winners(m); !slices.Equal(l, []int{x}) || e != api.OK {
				t.Fatalf("Winners(%v) = %v, %d, but %d beats all others", m, l, e, x)
			}
		}
		if count == 0 {
			t.Errorf("%d alternatives: none beats all others", n)
		}
	}
}

// TestWinnersAreAtTheTop holds the winners against the Smith set, in which all
// of them are.
func TestWinnersAreAtTheTop(t *testing.T) {
	for n := 1; n <= 6; n++ {
		for _, m := range manyMatrices(n) {
			top, _ := duel.Top(m)
			winners, _ := widest.Winners(m)
			for _, x := range winners {
				if !slices.Contains(top, x) {
					t.Fatalf("Winners(%v) = %v, but the Smith set is %v", m, winners, top)
				}
			}
		}
	}
}

// TestVotes goes all the way from ballots to the winner.
func TestVotes(t *testing.T) {
	var votes [][]int
	for _, c := range []struct {
		times  int
		ballot []int
	}{{8, []int{0, 2, 3, 1}}, {2, []int{1, 0, 3, 2}}, {4, []int{2, 3, 1, 0}}, {4, []int{3, 1, 0, 2}}, {3, []int{3, 2, 1, 0}}} {
		for range c.times {
			votes = append(votes, c.ballot)
		}
	}
	m, _ := tally.Duels(4, votes)
	if l, e := widest.Winners(m); !slices.Equal(l, []int{3}) || e != api.OK {
		t.Errorf("Winners(%v) = %v, %d, want [3]", m, l, e)
	}
}

// renamed returns m with alternative x named names[x].
func renamed(m [][]int, names []int) [][]int {
	l := square(len(m))
	for x := range m {
		for y := range m {
			l[names[x]][names[y]] = m[x][y]
		}
	}
	return l
}

// TestNames holds the results against those of the same matrix with other
// names of the alternatives.
func TestNames(t *testing.T) {
	for n := 1; n <= 4; n++ {
		orders, _ := order.All(n)
		for i, m := range manyMatrices(n) {
			if i%5 != 0 {
				continue
			}
			paths, _ := widest.Paths(m)
			winners, _ := widest.Winners(m)
			for _, names := range orders {
				other := renamed(m, names)
				if l, e := widest.Paths(other); !equal(l, renamed(paths, names)) || e != api.OK {
					t.Fatalf("Paths(%v) = %v, %d, but %v of %v", other, l, e, paths, m)
				}
				var want []int
				for _, x := range winners {
					want = append(want, names[x])
				}
				slices.Sort(want)
				if l, e := widest.Winners(other); !slices.Equal(l, want) || e != api.OK {
					t.Fatalf("Winners(%v) = %v, %d, want %v", other, l, e, want)
				}
			}
		}
	}
}

// rejected is a matrix, and the error that it causes.
type rejected struct {
	name string
	m    [][]int
	e    api.Errno
}

// invalid are matrices that both functions reject.
func invalid() []rejected {
	return []rejected{
		{"nil", nil, api.ErrLarge},
		{"empty", [][]int{}, api.ErrLarge},
		{"7 rows", square(7), api.ErrLarge},
		{"7 rows of wrong entries", with(square(7), 0, 0, -1), api.ErrLarge},
		{"7 rows without entries", make([][]int, 7), api.ErrLarge},
		{"1000 rows", make([][]int, 1000), api.ErrLarge},
		{"a nil row", [][]int{nil}, api.ErrForm},
		{"an empty row", [][]int{{}}, api.ErrForm},
		{"a long row", [][]int{{0, 0}}, api.ErrForm},
		{"a short row first", [][]int{{0}, {0, 0}}, api.ErrForm},
		{"a short row last", [][]int{{0, 0}, {0}}, api.ErrForm},
		{"a long row last", [][]int{{0, 0}, {0, 0, 0}}, api.ErrForm},
		{"too many votes", [][]int{{0, 31}, {0, 0}}, api.ErrArg},
		{"less than no votes", [][]int{{0, 0}, {-1, 0}}, api.ErrArg},
		{"very many votes", [][]int{{0, math.MaxInt}, {0, 0}}, api.ErrArg},
		{"much less than no votes", [][]int{{0, math.MinInt}, {0, 0}}, api.ErrArg},
		{"31 on the diagonal", [][]int{{31}}, api.ErrArg},
		{"-1 on the diagonal", [][]int{{-1}}, api.ErrArg},
		{"1 on the diagonal", [][]int{{1}}, api.ErrForm},
		{"30 on the diagonal", [][]int{{0, 1}, {2, 30}}, api.ErrForm},
		{"a long row with a wrong entry", [][]int{{0, 31, 0}, {0, 0}}, api.ErrForm},
		{"a short row, then a wrong entry", [][]int{{0}, {31, 0}}, api.ErrForm},
		{"a wrong entry, then a short row", [][]int{{0, 31}, {0}}, api.ErrArg},
		{"the diagonal, then a wrong entry of its row", [][]int{{1, 31}, {0, 0}}, api.ErrArg},
		{"the diagonal, then a wrong entry of the last row", [][]int{{1, 0}, {-1, 0}}, api.ErrArg},
		{"the diagonal, then a short row", [][]int{{1, 0}, {0}}, api.ErrForm},
	}
}

func TestInvalidMatrices(t *testing.T) {
	for _, c := range invalid() {
		if l, e := widest.Paths(c.m); len(l) != 0 || e != c.e {
			t.Errorf("%s: Paths(%v) = %v, %d, want %d", c.name, c.m, l, e, c.e)
		}
		if l, e := widest.Winners(c.m); len(l) != 0 || e != c.e {
			t.Errorf("%s: Winners(%v) = %v, %d, want %d", c.name, c.m, l, e, c.e)
		}
	}
}

// TestErrorsOfEachEntry puts values at the limits at each place of a matrix,
// and holds the errors against those of duel.Check.
func TestErrorsOfEachEntry(t *testing.T) {
	for n := 1; n <= 6; n++ {
		for x := range n {
			for y := range n {
				for _, v := range []int{-1, 0, 1, 30, 31} {
					m := with(square(n), x, y, v)
					want := duel.Check(m)
					if _, e := widest.Paths(m); e != want {
						t.Errorf("Paths(%v): error %d, want %d", m, e, want)
					}
					if _, e := widest.Winners(m); e != want {
						t.Errorf("Winners(%v): error %d, want %d", m, e, want)
					}
				}
			}
		}
	}
}
