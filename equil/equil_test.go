package equil_test

import (
	"math"
	"math/rand"
	"slices"
	"testing"

	"feathermark/api"
	"feathermark/equil"
	"feathermark/saddle"
)

// oblong returns a matrix of that many rows and columns, all of it 0.
func oblong(rows, columns int) [][]int {
	m := make([][]int, rows)
	for r := range m {
		m[r] = make([]int, columns)
	}
	return m
}

// with returns a copy of m in which entry c of row r is v.
func with(m [][]int, r, c, v int) [][]int {
	var l [][]int
	for _, row := range m {
		l = append(l, slices.Clone(row))
	}
	l[r][c] = v
	return l
}

// across returns m with its rows as columns.
func across(m [][]int) [][]int {
	l := oblong(len(m[0]), len(m))
	for r, row := range m {
		for c, pay := range row {
			l[c][r] = pay
		}
	}
	return l
}

// rejected is a game, and the error that it causes.
type rejected struct {
	name string
	a, b [][]int
	e    api.Errno
}

// faults are matrices that saddle.Check rejects.
func faults() map[string][][]int {
	return map[string][][]int{
		"nil":                           nil,
		"empty":                         {},
		"a nil row":                     {nil},
		"an empty row":                  {{}},
		"2 nil rows":                    {nil, nil},
		"7 rows":                        oblong(7, 2),
		"1000 rows":                     oblong(1000, 1),
		"7 rows with a wrong entry":     with(oblong(7, 2), 0, 0, 1001),
		"7 columns":                     oblong(2, 7),
		"1000 columns":                  oblong(1, 1000),
		"7 columns with a wrong entry":  with(oblong(2, 7), 0, 0, 1001),
		"a short second row":            {{1, 2}, {1}},
		"a long second row":             {{1, 2}, {1, 2, 3}},
		"a nil second row":              {{1, 2}, nil},
		"an empty row, then a full one": {{}, {1, 2}},
		"a short row, then wrong entry": {{1, 2}, {1}, {1001, 1}},
		"a short row with wrong entry":  {{1, 2}, {-1001}},
		"a wrong entry, then short row": {{1, 1001}, {1}},
		"too much":                      {{1, 2}, {1001, 4}},
		"too little":                    {{1, -1001}, {3, 4}},
		"far too much":                  {{math.MaxInt, 2}, {3, 4}},
		"far too little":                {{1, 2}, {3, math.MinInt}},
	}
}

// invalid are games that all functions reject.
func invalid() []rejected {
	good := [][]int{{1, 2}, {3, 4}}
	list := []rejected{
		{"both nil", nil, nil, api.ErrLarge},
		{"both empty", [][]int{}, [][]int{}, api.ErrLarge},
		{"both of 7 rows", oblong(7, 2), oblong(7, 2), api.ErrLarge},
		{"both of 7 columns", oblong(2, 7), oblong(2, 7), api.ErrLarge},
		{"both with a wrong entry", [][]int{{1001}}, [][]int{{-1001}}, api.ErrArg},
		{"both uneven", [][]int{{1, 2}, {1}}, [][]int{{1, 2}, {1}}, api.ErrForm},
		{"a with a wrong entry, b too large", [][]int{{1001}}, oblong(7, 1), api.ErrArg},
		{"a with a wrong entry, b uneven", [][]int{{1001}}, [][]int{{1, 2}, {1}}, api.ErrArg},
		{"a uneven, b too large", [][]int{{1, 2}, {1}}, nil, api.ErrForm},
		{"a uneven, b with a wrong entry", [][]int{{1, 2}, {1}}, [][]int{{1001}}, api.ErrForm},
		{"a too large, b with a wrong entry", oblong(7, 1), [][]int{{1001}}, api.ErrLarge},
		{"a too large, b uneven", nil, [][]int{{1, 2}, {1}}, api.ErrLarge},
		{"the test's", [][]int{{3, 0}, {5, 1}}, [][]int{{1}}, api.ErrForm},
		{"b of fewer rows", oblong(2, 2), oblong(1, 2), api.ErrForm},
		{"b of more rows", oblong(2, 2), oblong(3, 2), api.ErrForm},
		{"b of fewer columns", oblong(2, 2), oblong(2, 1), api.ErrForm},
		{"b of more columns", oblong(2, 2), oblong(2, 3), api.ErrForm},
		{"b across", oblong(2, 3), oblong(3, 2), api.ErrForm},
		{"as many entries", oblong(1, 6), oblong(2, 3), api.ErrForm},
		{"the least and the most", oblong(1, 1), oblong(6, 6), api.ErrForm},
		{"the most and the least", oblong(6, 6), oblong(1, 1), api.ErrForm},
		// That the sizes differ comes last.
		{"other sizes, a with a wrong entry", with(oblong(3, 2), 2, 1, 1001), oblong(2, 2), api.ErrArg},
		{"other sizes, b with a wrong entry", oblong(2, 2), with(oblong(3, 2), 2, 1, -1001), api.ErrArg},
		{"other sizes, b too large", oblong(6, 2), oblong(7, 2), api.ErrLarge},
		{"other sizes, a too large", oblong(7, 2), oblong(6, 2), api.ErrLarge},
		{"other sizes, a of 7 columns", oblong(2, 7), oblong(2, 6), api.ErrLarge},
		{"other sizes, b of 7 columns", oblong(2, 6), oblong(2, 7), api.ErrLarge},
	}
	for name, m := range faults() {
		e := saddle.Check(m)
		list = append(list, rejected{name + " in a", m, good, e}, rejected{name + " in b", good, m, e})
		list = append(list, rejected{name + " in both", m, m, e})
	}
	return list
}

func TestErrors(t *testing.T) {
	for _, c := range invalid() {
		if e := equil.Check(c.a, c.b); e != c.e || e == api.OK {
			t.Errorf("%s: Check(%v, %v) = %d, want %d", c.name, c.a, c.b, e, c.e)
		}
		if l, e := equil.Rest(c.a, c.b); len(l) != 0 || e != c.e {
			t.Errorf("%s: Rest(%v, %v) = %v, %d, want error %d", c.name, c.a, c.b, l, e, c.e)
		}
		if x, y, e := equil.Left(c.a, c.b); len(x) != 0 || len(y) != 0 || e != c.e {
			t.Errorf("%s: Left(%v, %v) = %v, %v, %d, want error %d", c.name, c.a, c.b, x, y, e, c.e)
		}
	}
}

// TestCheckOfEachPair holds all pairs of sizes, and of faults, against the
// errors in their order.
func TestCheckOfEachPair(t *testing.T) {
	var all [][][]int
	for rows := range 8 {
		for columns := range 8 {
			all = append(all, oblong(rows, columns))
		}
	}
	for _, m := range faults() {
		all = append(all, m)
	}
	for _, a := range all {
		for _, b := range all {
			want := saddle.Check(a)
			if want == api.OK {
				want = saddle.Check(b)
			}
			if want == api.OK && (len(a) != len(b) || len(a[0]) != len(b[0])) {
				want = api.ErrForm
			}
			if e := equil.Check(a, b); e != want {
				t.Errorf("Check(%v, %v) = %d, want %d", a, b, e, want)
			}
		}
	}
}

// TestCheckOfEachEntry puts values at the limits at each place of either matrix.
func TestCheckOfEachEntry(t *testing.T) {
	limits := map[int]api.Errno{-1001: api.ErrArg, -1000: api.OK, 0: api.OK, 1000: api.OK, 1001: api.ErrArg}
	for rows := 1; rows <= 6; rows++ {
		for columns := 1; columns <= 6; columns++ {
			same := oblong(rows, columns)
			for r := range rows {
				for c := range columns {
					for v, want := range limits {
						m := with(same, r, c, v)
						if e := equil.Check(m, same); e != want {
							t.Errorf("Check(%v, %v) = %d, want %d", m, same, e, want)
						}
						if e := equil.Check(same, m); e != want {
							t.Errorf("Check(%v, %v) = %d, want %d", same, m, e, want)
						}
					}
				}
			}
		}
	}
}

// results are what the functions return for a game.
type results struct {
	name          string
	a, b          [][]int
	rest          [][2]int
	rows, columns []int
}

func examples() []results {
	both := []int{0, 1}
	three := []int{0, 1, 2}
	return []results{
		{"the chapter's", [][]int{{3, 0}, {5, 1}}, [][]int{{3, 5}, {0, 1}}, [][2]int{{1, 1}}, []int{1}, []int{1}},
		{"nothing for the second player", [][]int{{3, 0}, {5, 1}}, [][]int{{1, 1}, {1, 1}}, [][2]int{{1, 0}, {1, 1}}, []int{1}, both},
		{"nothing for the first player", [][]int{{1, 1}, {1, 1}}, [][]int{{3, 5}, {0, 1}}, [][2]int{{0, 1}, {1, 1}}, both, []int{1}},
		{"one entry", [][]int{{-5}}, [][]int{{7}}, [][2]int{{0, 0}}, []int{0}, []int{0}},
		{"one row", [][]int{{1, 2, 3, 4}}, [][]int{{5, 9, 0, 9}}, [][2]int{{0, 1}, {0, 3}}, []int{0}, []int{1, 3}},
		{"one column", [][]int{{5}, {9}, {0}, {9}}, [][]int{{1}, {2}, {3}, {4}}, [][2]int{{1, 0}, {3, 0}}, []int{1, 3}, []int{0}},
		{"pennies", [][]int{{1, -1}, {-1, 1}}, [][]int{{-1, 1}, {1, -1}}, nil, both, both},
		{"a meeting", [][]int{{2, 0}, {0, 1}}, [][]int{{1, 0}, {0, 2}}, [][2]int{{0, 0}, {1, 1}}, both, both},
		{"who gives way", [][]int{{0, -1}, {1, -9}}, [][]int{{0, 1}, {-1, -9}}, [][2]int{{0, 1}, {1, 0}}, both, both},
		{"scissors", [][]int{{0, -1, 1}, {1, 0, -1}, {-1, 1, 0}}, [][]int{{0, 1, -1}, {-1, 0, 1}, {1, -1, 0}}, nil, three, three},
		{"all the same", [][]int{{2, 2}, {2, 2}}, [][]int{{2, 2}, {2, 2}}, [][2]int{{0, 0}, {0, 1}, {1, 0}, {1, 1}}, both, both},
		{"step by step", [][]int{{1, 1, 0}, {0, 0, 2}}, [][]int{{0, 2, 1}, {3, 1, 0}}, [][2]int{{0, 1}}, []int{0}, []int{1}},
		{"columns first", [][]int{{1, 2}, {0, 3}}, [][]int{{1, 0}, {1, 0}}, [][2]int{{0, 0}}, []int{0}, []int{0}},
		// Neither a row that is as good in one column, nor one that is worse than
		// two others taken together, is dominated by a row.
		{"a row as good in a column", [][]int{{1, 1}, {1, 0}}, [][]int{{0, 0}, {0, 0}}, [][2]int{{0, 0}, {0, 1}, {1, 0}}, both, both},
		{"a column as good in a row", [][]int{{0, 0}, {0, 0}}, [][]int{{1, 1}, {1, 0}}, [][2]int{{0, 0}, {0, 1}, {1, 0}}, both, both},
		{"two equal rows", [][]int{{1, 2}, {1, 2}}, [][]int{{0, 1}, {1, 0}}, [][2]int{{0, 1}, {1, 0}}, both, both},
		{"a row worse than a mixture", [][]int{{3, 0}, {0, 3}, {1, 1}}, [][]int{{0, 0}, {0, 0}, {0, 0}}, [][2]int{{0, 0}, {1, 1}}, three, both},
		{"a column worse than a mixture", [][]int{{0, 0, 0}, {0, 0, 0}}, [][]int{{3, 0, 1}, {0, 3, 1}}, [][2]int{{0, 0}, {1, 1}}, both, three},
		{"a chain of rows", [][]int{{1, 1}, {3, 3}, {2, 2}, {0, 0}}, [][]int{{0, 9}, {0, 0}, {9, 0}, {9, 9}}, [][2]int{{1, 0}, {1, 1}}, []int{1}, both},
		{"a chain of columns", [][]int{{0, 0, 9, 9}, {9, 0, 0, 9}}, [][]int{{1, 3, 2, 0}, {1, 3, 2, 0}}, [][2]int{{0, 1}, {1, 1}}, both, []int{1}},
		{"both fall in one step", [][]int{{1, 9}, {0, 8}}, [][]int{{1, 0}, {9, 8}}, [][2]int{{0, 0}}, []int{0}, []int{0}},
		{"the middle", [][]int{{0, 1, 0}, {1, 2, 1}, {0, 1, 0}}, [][]int{{0, 1, 0}, {1, 2, 1}, {0, 1, 0}}, [][2]int{{1, 1}}, []int{1}, []int{1}},
		{"the corners", [][]int{{2, 0, 2}, {0, -1, 0}, {2, 0, 2}}, [][]int{{2, 0, 2}, {0, -1, 0}, {2, 0, 2}}, [][2]int{{0, 0}, {0, 2}, {2, 0}, {2, 2}}, []int{0, 2}, []int{0, 2}},
		{"the limits", [][]int{{1000, -1000}, {-1000, 1000}}, [][]int{{1000, -1000}, {-1000, 1000}}, [][2]int{{0, 0}, {1, 1}}, both, both},
		{"the least against the most", [][]int{{-1000, -1000}, {1000, 1000}}, [][]int{{1000, -1000}, {1000, -1000}}, [][2]int{{1, 0}}, []int{1}, []int{0}},
		{"all below 0", [][]int{{-3, -9}, {-2, -8}}, [][]int{{-3, -2}, {-9, -8}}, [][2]int{{1, 1}}, []int{1}, []int{1}},
	}
}

func TestExamples(t *testing.T) {
	for _, c := range examples() {
		if e := equil.Check(c.a, c.b); e != api.OK {
			t.Errorf("%s: Check(%v, %v) = %d", c.name, c.a, c.b, e)
		}
		if l, e := equil.Rest(c.a, c.b); !slices.Equal(l, c.rest) || e != api.OK {
			t.Errorf("%s: Rest(%v, %v) = %v, %d, want %v", c.name, c.a, c.b, l, e, c.rest)
		}
		x, y, e := equil.Left(c.a, c.b)
		if !slices.Equal(x, c.rows) || !slices.Equal(y, c.columns) || e != api.OK {
			t.Errorf("%s: Left(%v, %v) = %v, %v, %d, want %v, %v", c.name, c.a, c.b, x, y, e, c.rows, c.columns)
		}
	}
}

// TestLongElimination has six moves each, of which only the last one falls, and
// then the one before it, down to the first: each player wants to be one below
// the other one.
func TestLongElimination(t *testing.T) {
	a := oblong(6, 6)
	for r := range a {
		for c := range a[r] {
			a[r][c] = 9 * min(r, c)
			if r < c {
				a[r][c] += 20
			}
			if r > c {
				a[r][c] -= 20 + r
			}
		}
	}
	b := across(a)
	x, y, e := equil.Left(a, b)
	if !slices.Equal(x, []int{0}) || !slices.Equal(y, []int{0}) || e != api.OK {
		t.Errorf("Left(%v, %v) = %v, %v, %d", a, b, x, y, e)
	}
	if l, e := equil.Rest(a, b); !slices.Equal(l, [][2]int{{0, 0}}) || e != api.OK {
		t.Errorf("Rest(%v, %v) = %v, %d", a, b, l, e)
	}
}

// everySmallGame calls f with each game of up to 2 by 2 moves and payoffs of 0
// to 2, and each of 2 by 3 or 3 by 2 moves and payoffs of 0 and 1.
func everySmallGame(f func(a, b [][]int)) {
	for _, size := range [][3]int{{1, 1, 3}, {1, 2, 3}, {2, 1, 3}, {2, 2, 3}, {2, 3, 2}, {3, 2, 2}} {
		a, b := oblong(size[0], size[1]), oblong(size[0], size[1])
		entries := append(slices.Concat(a...), slices.Concat(b...)...)
		for more := true; more; more = next(entries, size[2]) {
			for i, pay := range entries[:len(entries)/2] {
				a[i/size[1]][i%size[1]] = pay
				b[i/size[1]][i%size[1]] = entries[len(entries)/2+i]
			}
			f(a, b)
		}
	}
}

// next counts entries up, as the digits of a number, until all of them are 0
// again.
func next(entries []int, base int) bool {
	for i := range entries {
		entries[i] = (entries[i] + 1) % base
		if entries[i] != 0 {
			return true
		}
	}
	return false
}

// someGames calls f with games of each size, by chance, but the same ones at
// each run.
func someGames(f func(a, b [][]int)) {
	chance := rand.New(rand.NewSource(13))
	for rows := 1; rows <= 6; rows++ {
		for columns := 1; columns <= 6; columns++ {
			for i := range 300 {
				a, b := oblong(rows, columns), oblong(rows, columns)
				// A slope makes moves that dominate others, few different
				// values make many that are as good.
				slope := i % 4
				most := []int{1, 2, 3, 10, 900}[i%5]
				for r := range rows {
					for c := range columns {
						a[r][c] = chance.Intn(2*most+1) - most + slope*r
						b[r][c] = chance.Intn(2*most+1) - most + slope*c
					}
				}
				f(a, b)
			}
		}
	}
}

// everyGame calls f with all games of the two functions above.
func everyGame(f func(a, b [][]int)) {
	everySmallGame(f)
	someGames(f)
}

// stable tells whether neither player gains by leaving row r and column c.
func stable(a, b [][]int, r, c int) bool {
	for other := range a {
		if a[other][c] > a[r][c] {
			return false
		}
	}
	for other := range b[r] {
		if b[r][other] > b[r][c] {
			return false
		}
	}
	return true
}

func TestRestOfEveryGame(t *testing.T) {
	counts := make([]int, 37)
	everyGame(func(a, b [][]int) {
		var want [][2]int
		for r := range a {
			for c := range a[r] {
				if stable(a, b, r, c) {
					want = append(want, [2]int{r, c})
				}
			}
		}
		counts[len(want)]++
		if l, e := equil.Rest(a, b); !slices.Equal(l, want) || e != api.OK {
			t.Fatalf("Rest(%v, %v) = %v, %d, want %v", a, b, l, e, want)
		}
	})
	if slices.Min(counts[:5]) < 100 {
		t.Errorf("there are too few games with 0 to 4 equilibria: %v", counts[:5])
	}
}

// remaining are the rows and the columns that are still there, as bits.
type remaining struct{ rows, columns uint }

// falls tells whether bit y of own may go, as another one that is there earns
// more against each of others.
func falls(own, others uint, m [][]int, y int) bool {
	for x := range m {
		if own>>x&1 == 0 || x == y {
			continue
		}
		more := true
		for o := range m[x] {
			if others>>o&1 == 1 && m[x][o] <= m[y][o] {
				more = false
			}
		}
		if more {
			return true
		}
	}
	return false
}

// steps returns what may be there after one more row or column is removed.
func steps(a, turned [][]int, now remaining) []remaining {
	var list []remaining
	for r := range a {
		if now.rows>>r&1 == 1 && falls(now.rows, now.columns, a, r) {
			list = append(list, remaining{now.rows &^ (1 << r), now.columns})
		}
	}
	for c := range turned {
		if now.columns>>c&1 == 1 && falls(now.columns, now.rows, turned, c) {
			list = append(list, remaining{now.rows, now.columns &^ (1 << c)})
		}
	}
	return list
}

// bits returns the numbers as bits.
func bits(numbers []int) uint {
	var set uint
	for _, n := range numbers {
		set |= 1 << n
	}
	return set
}

// increasing tells whether the numbers are, and that there are some.
func increasing(numbers []int) bool {
	for i := 1; i < len(numbers); i++ {
		if numbers[i-1] >= numbers[i] {
			return false
		}
	}
	return len(numbers) > 0
}

// TestLeftInEveryOrder follows each order of elimination, move by move, to its
// end.
func TestLeftInEveryOrder(t *testing.T) {
	everySmallGame(func(a, b [][]int) {
		x, y, e := equil.Left(a, b)
		if !increasing(x) || !increasing(y) || e != api.OK {
			t.Fatalf("Left(%v, %v) = %v, %v, %d", a, b, x, y, e)
		}
		turned := across(b)
		open := []remaining{{1<<len(a) - 1, 1<<len(turned) - 1}}
		for len(open) > 0 {
			now := open[0]
			more := steps(a, turned, now)
			if len(more) == 0 && now != (remaining{bits(x), bits(y)}) {
				t.Fatalf("Left(%v, %v) = %v, %v, but it may end with %b, %b", a, b, x, y, now.rows, now.columns)
			}
			open = append(open[1:], more...)
		}
	})
}

// TestLeftInSomeOrder follows an order of elimination, move by move, by chance.
func TestLeftInSomeOrder(t *testing.T) {
	chance := rand.New(rand.NewSource(14))
	counts := make([]int, 11)
	someGames(func(a, b [][]int) {
		x, y, e := equil.Left(a, b)
		if !increasing(x) || !increasing(y) || e != api.OK {
			t.Fatalf("Left(%v, %v) = %v, %v, %d", a, b, x, y, e)
		}
		counts[len(a)+len(a[0])-len(x)-len(y)]++
		turned := across(b)
		now := remaining{1<<len(a) - 1, 1<<len(turned) - 1}
		for more := steps(a, turned, now); len(more) > 0; more = steps(a, turned, now) {
			now = more[chance.Intn(len(more))]
		}
		if now != (remaining{bits(x), bits(y)}) {
			t.Fatalf("Left(%v, %v) = %v, %v, but it may end with %b, %b", a, b, x, y, now.rows, now.columns)
		}
	})
	if slices.Min(counts) < 20 {
		t.Errorf("there are too few games in which that many moves fall: %v", counts)
	}
}

// TestRestAndLeft holds that every equilibrium remains, and that one pair of
// moves that remains alone is the only equilibrium.
func TestRestAndLeft(t *testing.T) {
	everyGame(func(a, b [][]int) {
		rest, _ := equil.Rest(a, b)
		x, y, _ := equil.Left(a, b)
		for _, p := range rest {
			if !slices.Contains(x, p[0]) || !slices.Contains(y, p[1]) {
				t.Fatalf("%v, %v: of the equilibria %v, one is not left in %v, %v", a, b, rest, x, y)
			}
		}
		if len(x) == 1 && len(y) == 1 && !slices.Equal(rest, [][2]int{{x[0], y[0]}}) {
			t.Fatalf("%v, %v: only %v, %v are left, but the equilibria are %v", a, b, x, y, rest)
		}
	})
}

// TestZeroSum holds that in a zero-sum game, the equilibria are the saddle
// points.
func TestZeroSum(t *testing.T) {
	everyGame(func(a, _ [][]int) {
		turned, _ := saddle.Turned(a)
		want, _ := saddle.Points(a)
		if l, e := equil.Rest(a, across(turned)); !slices.Equal(l, want) || e != api.OK {
			t.Fatalf("Rest of %v as a zero-sum game = %v, %d, want %v", a, l, e, want)
		}
	})
}

// TestPlayers holds that it does not matter who of the players is the first.
func TestPlayers(t *testing.T) {
	everyGame(func(a, b [][]int) {
		first, second := across(b), across(a)
		rest, _ := equil.Rest(a, b)
		other, e := equil.Rest(first, second)
		if len(other) != len(rest) || e != api.OK {
			t.Fatalf("Rest(%v, %v) = %v, %d; the other way round: %v", first, second, other, e, rest)
		}
		for _, p := range rest {
			if !slices.Contains(other, [2]int{p[1], p[0]}) {
				t.Fatalf("Rest(%v, %v) = %v; the other way round: %v", first, second, other, rest)
			}
		}
		x, y, _ := equil.Left(a, b)
		y2, x2, e := equil.Left(first, second)
		if !slices.Equal(x2, x) || !slices.Equal(y2, y) || e != api.OK {
			t.Fatalf("Left(%v, %v) = %v, %v, %d; the other way round: %v, %v", first, second, y2, x2, e, x, y)
		}
	})
}

// moved returns the new numbers of the moves, in increasing order.
func moved(moves, to []int) []int {
	var l []int
	for _, m := range moves {
		l = append(l, to[m])
	}
	slices.Sort(l)
	return l
}

// TestNames holds the results against those of the same game with its rows and
// columns in another order.
func TestNames(t *testing.T) {
	chance := rand.New(rand.NewSource(15))
	everyGame(func(a, b [][]int) {
		rows, columns := chance.Perm(len(a)), chance.Perm(len(a[0]))
		a2, b2 := oblong(len(a), len(a[0])), oblong(len(a), len(a[0]))
		for r := range a {
			for c := range a[r] {
				a2[rows[r]][columns[c]], b2[rows[r]][columns[c]] = a[r][c], b[r][c]
			}
		}
		rest, _ := equil.Rest(a, b)
		other, _ := equil.Rest(a2, b2)
		for _, p := range rest {
			if len(other) != len(rest) || !slices.Contains(other, [2]int{rows[p[0]], columns[p[1]]}) {
				t.Fatalf("Rest(%v, %v) = %v, but of %v, %v: %v", a2, b2, other, a, b, rest)
			}
		}
		x, y, _ := equil.Left(a, b)
		x2, y2, e := equil.Left(a2, b2)
		if !slices.Equal(x2, moved(x, rows)) || !slices.Equal(y2, moved(y, columns)) || e != api.OK {
			t.Fatalf("Left(%v, %v) = %v, %v, %d, but of %v, %v: %v, %v", a2, b2, x2, y2, e, a, b, x, y)
		}
	})
}

// TestUnits holds that the results stay if each player counts in another unit,
// and from another point for each move of the other one.
func TestUnits(t *testing.T) {
	chance := rand.New(rand.NewSource(16))
	everySmallGame(func(a, b [][]int) {
		a2, b2 := oblong(len(a), len(a[0])), oblong(len(a), len(a[0]))
		unit, unit2 := 1+chance.Intn(100), 1+chance.Intn(100)
		for c := range a[0] {
			more := chance.Intn(1401) - 700
			for r := range a {
				a2[r][c] = unit*a[r][c] + more
			}
		}
		for r := range b {
			more := chance.Intn(1401) - 700
			for c := range b[r] {
				b2[r][c] = unit2*b[r][c] + more
			}
		}
		rest, _ := equil.Rest(a, b)
		if l, e := equil.Rest(a2, b2); !slices.Equal(l, rest) || e != api.OK {
			t.Fatalf("Rest(%v, %v) = %v, %d, want %v", a2, b2, l, e, rest)
		}
		x, y, _ := equil.Left(a, b)
		if x2, y2, e := equil.Left(a2, b2); !slices.Equal(x2, x) || !slices.Equal(y2, y) || e != api.OK {
			t.Fatalf("Left(%v, %v) = %v, %v, %d, want %v, %v", a2, b2, x2, y2, e, x, y)
		}
	})
}
