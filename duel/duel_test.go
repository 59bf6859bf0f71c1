package duel_test

import (
	"math"
	"math/rand"
	"slices"
	"testing"

	"feathermark/api"
	"feathermark/duel"
	"feathermark/order"
	"feathermark/tally"
)

// ring is the example of the chapter.
func ring() [][]int {
	return [][]int{{0, 2, 1}, {1, 0, 2}, {2, 1, 0}}
}

// square returns a matrix of n rows, all of it 0.
func square(n int) [][]int {
	m := make([][]int, n)
	for x := range m {
		m[x] = make([]int, n)
	}
	return m
}

// with returns a copy of m in which entry y of row x is v.
func with(m [][]int, x, y, v int) [][]int {
	var l [][]int
	for _, row := range m {
		l = append(l, slices.Clone(row))
	}
	l[x][y] = v
	return l
}

// smallest returns all matrices of n rows with entries 0 and 1.
func smallest(n int) [][][]int {
	all := [][][]int{square(n)}
	for x := range n {
		for y := range n {
			if x == y {
				continue
			}
			for _, m := range slices.Clone(all) {
				all = append(all, with(m, x, y, 1))
			}
		}
	}
	return all
}

// manyMatrices returns many matrices of n rows: all small ones, and others by
// chance, but the same ones at each run.
func manyMatrices(n int) [][][]int {
	var all [][][]int
	if n <= 4 {
		all = smallest(n)
	}
	chance := rand.New(rand.NewSource(int64(n)))
	for i := range 3000 {
		m := square(n)
		// Few different values make many ties.
		values := []int{2, 3, 5, 31}[i%4]
		for x := range n {
			for y := range n {
				if x != y {
					m[x][y] = chance.Intn(values)
				}
			}
		}
		all = append(all, m)
	}
	return append(all, layered(n, chance)...)
}

// layered returns matrices in which alternatives of a layer beat all those of
// the layers below it.
func layered(n int, chance *rand.Rand) [][][]int {
	var all [][][]int
	for range 1000 {
		layer := make([]int, n)
		for x := range layer {
			layer[x] = chance.Intn(3)
		}
		m := square(n)
		for x := range n {
			for y := range n {
				switch {
				case layer[x] < layer[y]:
					m[x][y] = 4 + chance.Intn(27)
				case x != y:
					m[x][y] = chance.Intn(4)
				}
			}
		}
		all = append(all, m)
	}
	return all
}

// rejected is a matrix, and the error that it causes.
type rejected struct {
	name string
	m    [][]int
	e    api.Errno
}

// invalid are matrices that Check and all functions based on it reject.
func invalid() []rejected {
	return []rejected{
		{"nil", nil, api.ErrLarge},
		{"empty", [][]int{}, api.ErrLarge},
		{"7 rows", square(7), api.ErrLarge},
		{"7 rows of wrong entries", with(square(7), 0, 0, -1), api.ErrLarge},
		{"7 rows without entries", make([][]int, 7), api.ErrLarge},
		{"1000 rows", make([][]int, 1000), api.ErrLarge},
		{"a nil row", [][]int{nil}, api.ErrForm},
		{"an empty row", [][]int{{}}, api.ErrForm},
		{"a long row", [][]int{{0, 0}}, api.ErrForm},
		{"a short row first", [][]int{{0}, {0, 0}}, api.ErrForm},
		{"a short row last", [][]int{{0, 0}, {0}}, api.ErrForm},
		{"a long row last", [][]int{{0, 0}, {0, 0, 0}}, api.ErrForm},
		{"a long row of six", [][]int{0: make([]int, 6), 1: make([]int, 6), 2: make([]int, 6), 3: make([]int, 7), 4: make([]int, 6), 5: make([]int, 6)}, api.ErrForm},
		{"too many votes", [][]int{{0, 31}, {0, 0}}, api.ErrArg},
		{"less than no votes", [][]int{{0, 0}, {-1, 0}}, api.ErrArg},
		{"very many votes", [][]int{{0, math.MaxInt}, {0, 0}}, api.ErrArg},
		{"much less than no votes", [][]int{{0, math.MinInt}, {0, 0}}, api.ErrArg},
		{"31 on the diagonal", [][]int{{31}}, api.ErrArg},
		{"-1 on the diagonal", [][]int{{-1}}, api.ErrArg},
		{"1 on the diagonal", [][]int{{1}}, api.ErrForm},
		{"30 on the diagonal", [][]int{{0, 1}, {2, 30}}, api.ErrForm},
		{"a long row with a wrong entry", [][]int{{0, 31, 0}, {0, 0}}, api.ErrForm},
		{"a short row with a wrong entry", [][]int{{-1}, {0, 0}}, api.ErrForm},
		{"a short row, then a wrong entry", [][]int{{0}, {31, 0}}, api.ErrForm},
		{"a wrong entry, then a short row", [][]int{{0, 31}, {0}}, api.ErrArg},
		{"a wrong entry, then a nil row", [][]int{{-1, 0}, nil}, api.ErrArg},
		{"the diagonal, then a wrong entry of its row", [][]int{{1, 31}, {0, 0}}, api.ErrArg},
		{"the diagonal, then a wrong entry of the last row", [][]int{{1, 0}, {-1, 0}}, api.ErrArg},
		{"the diagonal, then a short row", [][]int{{1, 0}, {0}}, api.ErrForm},
	}
}

func TestCheck(t *testing.T) {
	for n := 1; n <= 6; n++ {
		for _, m := range manyMatrices(n) {
			if e := duel.Check(m); e != api.OK {
				t.Fatalf("Check(%v) = %d", m, e)
			}
		}
	}
	for _, c := range invalid() {
		if e := duel.Check(c.m); e != c.e {
			t.Errorf("%s: Check(%v) = %d, want %d", c.name, c.m, e, c.e)
		}
	}
}

// TestCheckOfEachEntry puts values at the limits at each place of a matrix.
func TestCheckOfEachEntry(t *testing.T) {
	for n := 1; n <= 6; n++ {
		for x := range n {
			for y := range n {
				off := api.OK
				if x == y {
					off = api.ErrForm
				}
				for v, want := range map[int]api.Errno{-1: api.ErrArg, 0: api.OK, 1: off, 30: off, 31: api.ErrArg} {
					m := with(square(n), x, y, v)
					if e := duel.Check(m); e != want {
						t.Errorf("Check(%v) = %d, want %d", m, e, want)
					}
				}
			}
		}
	}
}

// TestCheckOfEachRow makes each row of a matrix too short and too long.
func TestCheckOfEachRow(t *testing.T) {
	for n := 1; n <= 6; n++ {
		for x := range n {
			for _, length := range []int{0, n - 1, n + 1, 100} {
				m := square(n)
				m[x] = make([]int, length)
				if e := duel.Check(m); e != api.ErrForm {
					t.Errorf("Check(%v) = %d, want ErrForm", m, e)
				}
			}
		}
	}
}

// results are what the functions return for a matrix.
type results struct {
	name             string
	m                [][]int
	wins, worst, top []int
}

func examples() []results {
	return []results{
		{"alone", [][]int{{0}}, []int{0}, []int{0}, []int{0}},
		{"no votes", square(3), []int{0, 0, 0}, []int{0, 0, 0}, []int{0, 1, 2}},
		{"the chapter's ring", ring(), []int{0, 0, 0}, []int{1, 1, 1}, []int{0, 1, 2}},
		{"one beats all", [][]int{{0, 2, 2}, {1, 0, 2}, {1, 1, 0}}, []int{2, 0, -2}, []int{0, 1, 1}, []int{0}},
		{"the last one beats all", [][]int{{0, 0, 3}, {9, 0, 4}, {5, 7, 0}}, []int{-2, 0, 2}, []int{9, 3, 0}, []int{2}},
		{"a tie of two", [][]int{{0, 5}, {5, 0}}, []int{0, 0}, []int{0, 0}, []int{0, 1}},
		{"all against none", [][]int{{0, 0}, {30, 0}}, []int{-1, 1}, []int{30, 0}, []int{1}},
		{"a tie above the last one", [][]int{{0, 1, 2}, {1, 0, 2}, {0, 0, 0}}, []int{1, 1, -2}, []int{0, 0, 2}, []int{0, 1}},
		{"a tie with one, beats the other", [][]int{{0, 1, 2}, {1, 0, 1}, {0, 1, 0}}, []int{1, 0, -1}, []int{0, 0, 2}, []int{0, 1, 2}},
		{"a ring of the last three", [][]int{{0, 1, 0, 0}, {2, 0, 7, 1}, {9, 6, 0, 5}, {3, 4, 2, 0}}, []int{-3, 1, 1, 1}, []int{9, 3, 1, 3}, []int{1, 2, 3}},
		{"a ring below the first", [][]int{{0, 3, 3, 3}, {0, 0, 2, 1}, {0, 1, 0, 2}, {0, 2, 1, 0}}, []int{3, -1, -1, -1}, []int{0, 3, 3, 3}, []int{0}},
		{"two rings", [][]int{
			{0, 0, 3, 0, 1, 0}, {5, 0, 4, 2, 5, 1}, {1, 0, 0, 0, 3, 0},
			{5, 1, 5, 0, 5, 2}, {3, 0, 1, 0, 0, 0}, {5, 2, 5, 1, 5, 0},
		}, []int{-3, 3, -3, 3, -3, 3}, []int{5, 1, 5, 1, 5, 1}, []int{1, 3, 5}},
		{"a chain back to the first", [][]int{{0, 1, 1, 0}, {0, 0, 1, 1}, {0, 0, 0, 1}, {1, 0, 0, 0}}, []int{1, 1, -1, -1}, []int{1, 1, 1, 1}, []int{0, 1, 2, 3}},
	}
}

func TestExamples(t *testing.T) {
	for _, c := range examples() {
		if l, e := duel.Wins(c.m); !slices.Equal(l, c.wins) || e != api.OK {
			t.Errorf("%s: Wins(%v) = %v, %d, want %v", c.name, c.m, l, e, c.wins)
		}
		if l, e := duel.Worst(c.m); !slices.Equal(l, c.worst) || e != api.OK {
			t.Errorf("%s: Worst(%v) = %v, %d, want %v", c.name, c.m, l, e, c.worst)
		}
		if l, e := duel.Top(c.m); !slices.Equal(l, c.top) || e != api.OK {
			t.Errorf("%s: Top(%v) = %v, %d, want %v", c.name, c.m, l, e, c.top)
		}
	}
}

// lead is by how many votes x is before y.
func lead(m [][]int, x, y int) int {
	return m[x][y] - m[y][x]
}

func TestWinsOfManyMatrices(t *testing.T) {
	for n := 1; n <= 6; n++ {
		for _, m := range manyMatrices(n) {
			var wins []int
			for x := range n {
				won, lost := 0, 0
				for y := range n {
					if lead(m, x, y) > 0 {
						won++
					} else if lead(m, x, y) < 0 {
						lost++
					}
				}
				wins = append(wins, won-lost)
			}
			if l, e := duel.Wins(m); !slices.Equal(l, wins) || e != api.OK {
				t.Fatalf("Wins(%v) = %v, %d, want %v", m, l, e, wins)
			}
		}
	}
}

func TestWorstOfManyMatrices(t *testing.T) {
	for n := 1; n <= 6; n++ {
		for _, m := range manyMatrices(n) {
			var worst []int
			for x := range n {
				defeats := []int{0}
				for y := range n {
					if lead(m, y, x) > 0 {
						defeats = append(defeats, lead(m, y, x))
					}
				}
				worst = append(worst, slices.Max(defeats))
			}
			if l, e := duel.Worst(m); !slices.Equal(l, worst) || e != api.OK {
				t.Fatalf("Worst(%v) = %v, %d, want %v", m, l, e, worst)
			}
		}
	}
}

// dominates tells whether each alternative in set, a number of bits, beats
// every one outside.
func dominates(m [][]int, set int) bool {
	for x := range m {
		for y := range m {
			if set>>x&1 == 1 && set>>y&1 == 0 && lead(m, x, y) <= 0 {
				return false
			}
		}
	}
	return true
}

// members returns the numbers of the bits of set.
func members(set int) []int {
	var l []int
	for x := range 6 {
		if set>>x&1 == 1 {
			l = append(l, x)
		}
	}
	return l
}

// smith tries all sets of alternatives, as P15 says it.
func smith(m [][]int) []int {
	var best []int
	for set := 1; set < 1<<len(m); set++ {
		l := members(set)
		if dominates(m, set) && (best == nil || len(l) < len(best)) {
			best = l
		}
	}
	return best
}

func TestTopOfManyMatrices(t *testing.T) {
	for n := 1; n <= 6; n++ {
		sizes := make([]int, n+1)
		for _, m := range manyMatrices(n) {
			want := smith(m)
			sizes[len(want)]++
			if l, e := duel.Top(m); !slices.Equal(l, want) || e != api.OK {
				t.Fatalf("Top(%v) = %v, %d, want %v", m, l, e, want)
			}
		}
		for size := 1; size <= n; size++ {
			if sizes[size] == 0 {
				t.Errorf("no matrix of %d rows has a Smith set of %d", n, size)
			}
		}
	}
}

func TestVotes(t *testing.T) {
	tests := []struct {
		n     int
		beats [][]int
		votes [][]int
	}{
		{1, nil, nil},
		{6, nil, nil},
		{2, [][]int{{0, 1}}, [][]int{{0, 1}, {0, 1}}},
		{2, [][]int{{1, 0}}, [][]int{{1, 0}, {1, 0}}},
		{3, [][]int{{2, 0}}, [][]int{{2, 0, 1}, {1, 2, 0}}},
		{3, [][]int{{0, 1}, {1, 2}, {2, 0}}, [][]int{{0, 1, 2}, {2, 0, 1}, {1, 2, 0}, {0, 1, 2}, {2, 0, 1}, {1, 2, 0}}},
		{3, [][]int{{0, 1}, {1, 0}, {0, 1}}, [][]int{{0, 1, 2}, {2, 0, 1}, {1, 0, 2}, {2, 1, 0}, {0, 1, 2}, {2, 0, 1}}},
		{4, [][]int{{3, 1}}, [][]int{{3, 1, 0, 2}, {2, 0, 3, 1}}},
		{6, [][]int{{4, 2}}, [][]int{{4, 2, 0, 1, 3, 5}, {5, 3, 1, 0, 4, 2}}},
		{6, [][]int{{5, 0}, {0, 5}}, [][]int{{5, 0, 1, 2, 3, 4}, {4, 3, 2, 1, 5, 0}, {0, 5, 1, 2, 3, 4}, {4, 3, 2, 1, 0, 5}}},
	}
	for _, c := range tests {
		if l, e := duel.Votes(c.n, c.beats); !slices.EqualFunc(l, c.votes, slices.Equal) || e != api.OK {
			t.Errorf("Votes(%d, %v) = %v, %d, want %v", c.n, c.beats, l, e, c.votes)
		}
	}
}

// pairs returns k times the pair.
func pairs(k int, pair ...int) [][]int {
	var l [][]int
	for range k {
		l = append(l, slices.Clone(pair))
	}
	return l
}

// rejectedPairs are arguments of Votes, and the error that they cause.
type rejectedPairs struct {
	n     int
	beats [][]int
	e     api.Errno
}

func invalidPairs() []rejectedPairs {
	return []rejectedPairs{
		{0, nil, api.ErrArg},
		{-1, nil, api.ErrArg},
		{7, nil, api.ErrArg},
		{7, [][]int{{0, 1}}, api.ErrArg},
		{math.MinInt, nil, api.ErrArg},
		{math.MaxInt, [][]int{{0, 1}}, api.ErrArg},
		{0, pairs(16, 0, 1), api.ErrArg},
		{7, pairs(16, 0, 0), api.ErrArg},
		{0, [][]int{{0, 0}}, api.ErrArg},
		{3, pairs(16, 0, 1), api.ErrLarge},
		{3, pairs(16, 1, 1), api.ErrLarge},
		{1, make([][]int, 16), api.ErrLarge},
		{2, make([][]int, 1000), api.ErrLarge},
		{2, make([][]int, 15), api.ErrForm},
		{1, [][]int{{0, 0}}, api.ErrForm},
		{1, [][]int{{0, 1}}, api.ErrForm},
		{1, [][]int{{1, 0}}, api.ErrForm},
		{2, [][]int{nil}, api.ErrForm},
		{2, [][]int{{}}, api.ErrForm},
		{2, [][]int{{0}}, api.ErrForm},
		{3, [][]int{{0, 1, 2}}, api.ErrForm},
		{3, [][]int{{0, 1, 1}}, api.ErrForm},
		{3, [][]int{{1, 1}}, api.ErrForm},
		{3, [][]int{{0, 3}}, api.ErrForm},
		{3, [][]int{{3, 0}}, api.ErrForm},
		{3, [][]int{{-1, 0}}, api.ErrForm},
		{3, [][]int{{0, -1}}, api.ErrForm},
		{3, [][]int{{3, 4}}, api.ErrForm},
		{6, [][]int{{5, 6}}, api.ErrForm},
		{6, [][]int{{0, math.MaxInt}}, api.ErrForm},
		{6, [][]int{{math.MinInt, 0}}, api.ErrForm},
		{3, [][]int{{0, 1}, {1, 2}, {2, 2}}, api.ErrForm},
		{3, [][]int{{0, 0}, {1, 2}, {2, 0}}, api.ErrForm},
		{6, append(pairs(14, 0, 1), []int{1, 1}), api.ErrForm},
	}
}

func TestVotesOfInvalidPairs(t *testing.T) {
	for _, c := range invalidPairs() {
		if l, e := duel.Votes(c.n, c.beats); len(l) != 0 || e != c.e {
			t.Errorf("Votes(%d, %v) = %v, %d, want %d", c.n, c.beats, l, e, c.e)
		}
	}
}

func TestVotesAtItsLimit(t *testing.T) {
	for n := 2; n <= 6; n++ {
		l, e := duel.Votes(n, pairs(15, 1, 0))
		if len(l) != 30 || e != api.OK {
			t.Errorf("Votes of 15 pairs of %d alternatives has %d ballots, %d", n, len(l), e)
		}
		if f := tally.Check(n, l); f != api.OK {
			t.Errorf("Votes of 15 pairs of %d alternatives is no vote: %d", n, f)
		}
	}
}

// parts returns the two ballots of a pair, built from the order of all others.
func parts(n, a, b int) [][]int {
	first, second := []int{a, b}, []int{}
	for x := range n {
		if x != a && x != b {
			first = append(first, x)
		}
	}
	for x := n - 1; x >= 0; x-- {
		if x != a && x != b {
			second = append(second, x)
		}
	}
	return [][]int{first, append(second, a, b)}
}

func TestVotesOfEachPair(t *testing.T) {
	for n := 2; n <= 6; n++ {
		for a := range n {
			for b := range n {
				if a == b {
					continue
				}
				want := parts(n, a, b)
				if l, e := duel.Votes(n, [][]int{{a, b}}); !slices.EqualFunc(l, want, slices.Equal) || e != api.OK {
					t.Errorf("Votes(%d, [[%d %d]]) = %v, %d, want %v", n, a, b, l, e, want)
				}
			}
		}
	}
}

// TestVotesRealizeMajorities holds the pairwise matrix of the ballots against
// the majorities that they were made for.
func TestVotesRealizeMajorities(t *testing.T) {
	chance := rand.New(rand.NewSource(16))
	for i := range 2000 {
		n := i%5 + 2
		var beats [][]int
		leads := square(n)
		for a := range n {
			for b := range a {
				pair := [][]int{{a, b}, {b, a}, nil}[chance.Intn(3)]
				if pair == nil {
					continue
				}
				beats = append(beats, pair)
				leads[pair[0]][pair[1]] = 2
			}
		}
		votes, e := duel.Votes(n, beats)
		m, f := tally.Duels(n, votes)
		if e != api.OK || f != api.OK || duel.Check(m) != api.OK {
			t.Fatalf("Votes(%d, %v) = %v, %d; its matrix: %d", n, beats, votes, e, f)
		}
		for x := range n {
			for y := range n {
				if lead(m, x, y) != lead(leads, x, y) {
					t.Fatalf("Votes(%d, %v) = %v, with the matrix %v", n, beats, votes, m)
				}
			}
		}
	}
}

// renamed returns m with alternative x named names[x].
func renamed(m [][]int, names []int) [][]int {
	l := square(len(m))
	for x := range m {
		for y := range m {
			l[names[x]][names[y]] = m[x][y]
		}
	}
	return l
}

// TestNames holds the results against those of the same matrix with other
// names of the alternatives.
func TestNames(t *testing.T) {
	for n := 1; n <= 4; n++ {
		orders, _ := order.All(n)
		for i, m := range manyMatrices(n) {
			if i%5 != 0 {
				continue
			}
			wins, _ := duel.Wins(m)
			worst, _ := duel.Worst(m)
			top, _ := duel.Top(m)
			for _, names := range orders {
				other := renamed(m, names)
				otherWins, _ := duel.Wins(other)
				otherWorst, _ := duel.Worst(other)
				otherTop, _ := duel.Top(other)
				for x, name := range names {
					if otherWins[name] != wins[x] || otherWorst[name] != worst[x] || slices.Contains(otherTop, name) != slices.Contains(top, x) {
						t.Fatalf("%v: %d has other results than %d of %v", other, name, x, m)
					}
				}
			}
		}
	}
}
