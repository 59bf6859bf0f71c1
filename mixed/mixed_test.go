package mixed_test

import (
	"math"
	"math/big"
	"math/rand"
	"slices"
	"testing"

	"feathermark/api"
	"feathermark/mixed"
	"feathermark/saddle"
)

// oblong returns a matrix of that many rows and columns, all of it 0.
func oblong(rows, columns int) [][]int {
	m := make([][]int, rows)
	for r := range m {
		m[r] = make([]int, columns)
	}
	return m
}

// with returns a copy of m in which entry c of row r is v.
func with(m [][]int, r, c, v int) [][]int {
	var l [][]int
	for _, row := range m {
		l = append(l, slices.Clone(row))
	}
	l[r][c] = v
	return l
}

// ratio returns p/q as it is written: not in lowest terms.
func ratio(p, q int) api.Ratio {
	return api.Ratio{P: p, Q: q}
}

// rejected is a matrix, and the error that it causes.
type rejected struct {
	name string
	m    [][]int
	e    api.Errno
}

// invalid are matrices without a result.
func invalid() []rejected {
	return []rejected{
		{"nil", nil, api.ErrLarge},
		{"empty", [][]int{}, api.ErrLarge},
		{"7 rows", oblong(7, 1), api.ErrLarge},
		{"7 rows of 7", oblong(7, 7), api.ErrLarge},
		{"1000 rows", oblong(1000, 2), api.ErrLarge},
		{"7 rows with a wrong entry", with(oblong(7, 1), 0, 0, 1001), api.ErrLarge},
		{"a nil row", [][]int{nil}, api.ErrLarge},
		{"2 nil rows", [][]int{nil, nil}, api.ErrLarge},
		{"2 empty rows", [][]int{{}, {}}, api.ErrLarge},
		{"3 empty rows", [][]int{{}, {}, {}}, api.ErrLarge},
		{"2 rows of 7", oblong(2, 7), api.ErrLarge},
		{"2 rows of 1000", oblong(2, 1000), api.ErrLarge},
		{"2 rows of 7 with a wrong entry", with(oblong(2, 7), 0, 0, 1001), api.ErrLarge},
		{"a row of 7", oblong(1, 7), api.ErrLarge},
		{"3 rows of 7", oblong(3, 7), api.ErrLarge},
		{"a short second row", [][]int{{1, 2}, {1}}, api.ErrForm},
		{"a long second row", [][]int{{1}, {1, 2}}, api.ErrForm},
		{"a nil second row", [][]int{{1}, nil}, api.ErrForm},
		{"a second row of 7", [][]int{{1, 2}, make([]int, 7)}, api.ErrForm},
		{"a short second row with a wrong entry", [][]int{{1, 2}, {-1001}}, api.ErrForm},
		{"an empty row, then one that is not", [][]int{{}, {1}}, api.ErrLarge},
		{"a row of 7, then a shorter one", [][]int{make([]int, 7), {1}}, api.ErrLarge},
		{"too much", [][]int{{1, 2}, {1001, 0}}, api.ErrArg},
		{"too little", [][]int{{-1001, 2}, {3, 4}}, api.ErrArg},
		{"far too much", [][]int{{1, 2}, {3, math.MaxInt}}, api.ErrArg},
		{"far too little", [][]int{{1, math.MinInt}, {3, 4}}, api.ErrArg},
		{"a wrong entry, then a short row", [][]int{{1, 1001}, {1}}, api.ErrArg},
		{"1 row of 1", [][]int{{1}}, api.ErrForm},
		{"1 row of 2", oblong(1, 2), api.ErrForm},
		{"1 row of 6", oblong(1, 6), api.ErrForm},
		{"3 rows of 1", oblong(3, 1), api.ErrForm},
		{"3 rows of 2", oblong(3, 2), api.ErrForm},
		{"3 rows, the last of them too short", [][]int{{1, 2}, {3, 4}, {5}}, api.ErrForm},
		{"6 rows of 6", oblong(6, 6), api.ErrForm},
		// These have the wrong number of rows, too, but that comes last.
		{"1 row with a wrong entry", [][]int{{1, 1001}}, api.ErrArg},
		{"3 rows, the last with a wrong entry", with(oblong(3, 2), 2, 1, -1001), api.ErrArg},
		{"6 rows, the last with a wrong entry", with(oblong(6, 6), 5, 5, 1001), api.ErrArg},
	}
}

func TestErrors(t *testing.T) {
	for _, c := range invalid() {
		if x, v, e := mixed.Solve(c.m); x != (api.Ratio{}) || v != (api.Ratio{}) || e != c.e {
			t.Errorf("%s: Solve(%v) = %v, %v, %d, want error %d", c.name, c.m, x, v, e, c.e)
		}
	}
}

// TestErrorsOfSaddle holds the errors against those of saddle.Check, with a
// wrong entry at each place and without one.
func TestErrorsOfSaddle(t *testing.T) {
	hold := func(m [][]int) {
		want := saddle.Check(m)
		if want == api.OK && len(m) != 2 {
			want = api.ErrForm
		}
		if _, _, e := mixed.Solve(m); e != want {
			t.Errorf("Solve(%v) returns error %d, want %d", m, e, want)
		}
	}
	for rows := range 9 {
		for columns := range 9 {
			hold(oblong(rows, columns))
			for r := range rows {
				for c := range columns {
					for _, v := range []int{-1001, -1000, 1000, 1001} {
						hold(with(oblong(rows, columns), r, c, v))
					}
				}
			}
		}
	}
}

// solved is a game, and what Solve returns for it.
type solved struct {
	name     string
	m        [][]int
	x, value api.Ratio
}

func examples() []solved {
	return []solved{
		{"the chapter's", [][]int{{1, -1}, {-1, 1}}, ratio(1, 2), ratio(0, 1)},
		{"a better second row", [][]int{{3, 1}, {4, 2}}, ratio(0, 1), ratio(2, 1)},
		{"a better first row", [][]int{{4, 2}, {3, 1}}, ratio(1, 1), ratio(2, 1)},
		{"in thirds", [][]int{{2, 0}, {0, 1}}, ratio(1, 3), ratio(2, 3)},
		{"in thirds, columns the other way round", [][]int{{0, 2}, {1, 0}}, ratio(1, 3), ratio(2, 3)},
		{"in thirds, rows the other way round", [][]int{{0, 1}, {2, 0}}, ratio(2, 3), ratio(2, 3)},
		{"below 0", [][]int{{-2, 0}, {0, -1}}, ratio(1, 3), ratio(-2, 3)},
		{"nothing at all", [][]int{{0, 0}, {0, 0}}, ratio(0, 1), ratio(0, 1)},
		{"one column, the second row", [][]int{{-7}, {5}}, ratio(0, 1), ratio(5, 1)},
		{"one column, the first row", [][]int{{5}, {-7}}, ratio(1, 1), ratio(5, 1)},
		{"one column, either row", [][]int{{-7}, {-7}}, ratio(0, 1), ratio(-7, 1)},
		// Where every x of a range is best, the smallest one counts.
		{"a range from 0 to 1/2", [][]int{{0, -1}, {0, 1}}, ratio(0, 1), ratio(0, 1)},
		{"a range from 1/2 to 1", [][]int{{0, 1}, {0, -1}}, ratio(1, 2), ratio(0, 1)},
		{"a range from 1/3 to 2/3", [][]int{{0, 2, -1}, {0, -1, 2}}, ratio(1, 3), ratio(0, 1)},
		{"a column that rises to another one", [][]int{{5, 5}, {5, 4}}, ratio(1, 1), ratio(5, 1)},
		{"both columns the same", [][]int{{3, 3}, {1, 1}}, ratio(1, 1), ratio(3, 1)},
		{"columns that never cross", [][]int{{3, 4}, {1, 2}}, ratio(1, 1), ratio(3, 1)},
		{"columns that meet at 0", [][]int{{2, 1}, {0, 0}}, ratio(1, 1), ratio(1, 1)},
		{"columns that meet at 0, the best", [][]int{{-2, 1}, {0, 0}}, ratio(0, 1), ratio(0, 1)},
		{"columns that meet at 1, the best", [][]int{{0, 0}, {-2, -1}}, ratio(1, 1), ratio(0, 1)},
		{"columns that meet beyond 1", [][]int{{4, 3}, {2, 0}}, ratio(1, 1), ratio(3, 1)},
		{"columns that meet below 0", [][]int{{4, 2}, {3, 2}}, ratio(0, 1), ratio(2, 1)},
		// The first two columns cross at 1/2, but there the third one is lower.
		{"a crossing that is too high", [][]int{{4, 0, 2}, {0, 4, -4}}, ratio(4, 5), ratio(4, 5)},
		{"three columns that cross at one place", [][]int{{4, 0, 1}, {0, 4, 3}}, ratio(1, 2), ratio(2, 1)},
		{"six columns", [][]int{{9, 0, 7, 2, 5, 4}, {0, 9, 2, 7, 4, 5}}, ratio(1, 2), ratio(9, 2)},
		{"to be reduced", [][]int{{6, 2}, {2, 4}}, ratio(1, 3), ratio(10, 3)},
		{"a value in lower terms than x", [][]int{{3, 0}, {0, 6}}, ratio(2, 3), ratio(2, 1)},
		{"a value of 0 between the rows", [][]int{{2, -1}, {-4, 2}}, ratio(2, 3), ratio(0, 1)},
		{"the limits", [][]int{{1000, -1000}, {-1000, 1000}}, ratio(1, 2), ratio(0, 1)},
		{"the least", [][]int{{-1000, -1000}, {-1000, -1000}}, ratio(0, 1), ratio(-1000, 1)},
		{"the most", [][]int{{1000, 1000}, {1000, 1000}}, ratio(0, 1), ratio(1000, 1)},
		{"near the limits", [][]int{{1000, -999}, {-1000, 998}}, ratio(1998, 3997), ratio(-1000, 3997)},
		{"far apart", [][]int{{-1000, 1000}, {999, -1000}}, ratio(1999, 3999), ratio(-1000, 3999)},
	}
}

func TestExamples(t *testing.T) {
	for _, c := range examples() {
		if x, v, e := mixed.Solve(c.m); x != c.x || v != c.value || e != api.OK {
			t.Errorf("%s: Solve(%v) = %v, %v, %d, want %v, %v", c.name, c.m, x, v, e, c.x, c.value)
		}
	}
}

// everySmallGame calls f with each game of up to 3 columns and entries of -2 to
// 2.
func everySmallGame(f func(m [][]int)) {
	size := 1
	for columns := 1; columns <= 3; columns++ {
		size *= 25
		for number := range size {
			m := oblong(2, columns)
			for c := range columns {
				m[0][c] = number%5 - 2
				m[1][c] = number/5%5 - 2
				number /= 25
			}
			f(m)
		}
	}
}

// someGames calls f with games of each size, by chance, but the same ones at
// each run.
func someGames(f func(m [][]int)) {
	chance := rand.New(rand.NewSource(12))
	for i := range 12000 {
		// Few different values make many crossings at one place, and many x
		// that are best.
		most := []int{1, 3, 10, 100, 1000}[i%5]
		m := oblong(2, 1+i%6)
		for r := range m {
			for c := range m[r] {
				m[r][c] = chance.Intn(2*most+1) - most
			}
		}
		f(m)
	}
}

// everyGame calls f with all games of the two functions above.
func everyGame(f func(m [][]int)) {
	everySmallGame(f)
	someGames(f)
}

// exact returns the same number as a ratio of any size.
func exact(r api.Ratio) *big.Rat {
	return big.NewRat(int64(r.P), int64(r.Q))
}

// expected returns the payoff of column c if the first row is chosen with
// probability x.
func expected(m [][]int, c int, x *big.Rat) *big.Rat {
	other := new(big.Rat).Sub(big.NewRat(1, 1), x)
	a := new(big.Rat).Mul(x, big.NewRat(int64(m[0][c]), 1))
	b := new(big.Rat).Mul(other, big.NewRat(int64(m[1][c]), 1))
	return a.Add(a, b)
}

// worst returns the least payoff of all columns, and the columns that have it.
func worst(m [][]int, x *big.Rat) (*big.Rat, []int) {
	var low *big.Rat
	var columns []int
	for c := range m[0] {
		pay := expected(m, c, x)
		if low == nil || pay.Cmp(low) < 0 {
			low, columns = pay, nil
		}
		if pay.Cmp(low) == 0 {
			columns = append(columns, c)
		}
	}
	return low, columns
}

// TestForm holds that both results are in lowest terms and in their ranges.
func TestForm(t *testing.T) {
	gcd := func(r api.Ratio) int64 {
		p := big.NewInt(int64(r.P))
		return new(big.Int).GCD(nil, nil, p.Abs(p), big.NewInt(int64(r.Q))).Int64()
	}
	everyGame(func(m [][]int) {
		x, v, e := mixed.Solve(m)
		if e != api.OK || x.Q < 1 || v.Q < 1 || gcd(x) != 1 || gcd(v) != 1 || x.P < 0 || x.P > x.Q {
			t.Fatalf("Solve(%v) = %v, %v, %d", m, x, v, e)
		}
	})
}

// TestSmallGames holds the results against all x that may be best: where two
// columns of entries of -2 to 2 cross, x has a denominator of at most 8.
func TestSmallGames(t *testing.T) {
	var places []*big.Rat
	for q := int64(1); q <= 8; q++ {
		for p := range q + 1 {
			places = append(places, big.NewRat(p, q))
		}
	}
	slices.SortFunc(places, (*big.Rat).Cmp)
	places = slices.CompactFunc(places, func(a, b *big.Rat) bool { return a.Cmp(b) == 0 })
	everySmallGame(func(m [][]int) {
		var best, value *big.Rat
		for _, x := range places {
			if low, _ := worst(m, x); value == nil || low.Cmp(value) > 0 {
				best, value = x, low
			}
		}
		x, v, e := mixed.Solve(m)
		if e != api.OK || exact(x).Cmp(best) != 0 || exact(v).Cmp(value) != 0 {
			t.Fatalf("Solve(%v) = %v, %v, %d, want %v, %v", m, x, v, e, best, value)
		}
	})
}

// TestBest holds that the least payoff at x is the value, that there is no
// more to the right of x, and less everywhere to the left of it. As no column
// bends, it suffices that a worst column does not rise to the right of x, and
// that a worst column rises to it from the left.
func TestBest(t *testing.T) {
	everyGame(func(m [][]int) {
		x, v, e := mixed.Solve(m)
		if e != api.OK {
			t.Fatalf("Solve(%v) returns error %d", m, e)
		}
		low, columns := worst(m, exact(x))
		if low.Cmp(exact(v)) != 0 {
			t.Fatalf("Solve(%v) = %v, %v, but there it is %v", m, x, v, low)
		}
		rises := func(c int) bool { return m[0][c] > m[1][c] }
		stays := func(c int) bool { return !rises(c) }
		if x.P < x.Q && !slices.ContainsFunc(columns, stays) {
			t.Fatalf("Solve(%v) = %v, %v: there is more to the right", m, x, v)
		}
		if x.P > 0 && !slices.ContainsFunc(columns, rises) {
			t.Fatalf("Solve(%v) = %v, %v: there is as much to the left", m, x, v)
		}
	})
}

// holds tells whether the second player can mix columns c and d such that
// neither row pays more than v.
func holds(m [][]int, c, d int, v *big.Rat) bool {
	// The probabilities of column c that will do are those from least to most.
	least, most := big.NewRat(0, 1), big.NewRat(1, 1)
	for _, row := range m {
		slope := big.NewRat(int64(row[c]-row[d]), 1)
		room := new(big.Rat).Sub(v, big.NewRat(int64(row[d]), 1))
		switch slope.Sign() {
		case 0:
			if room.Sign() < 0 {
				return false
			}
		case 1:
			if limit := room.Quo(room, slope); limit.Cmp(most) < 0 {
				most = limit
			}
		case -1:
			if limit := room.Quo(room, slope); limit.Cmp(least) > 0 {
				least = limit
			}
		}
	}
	return least.Cmp(most) <= 0
}

// TestValue holds that the second player can make sure of the value, too.
func TestValue(t *testing.T) {
	everyGame(func(m [][]int) {
		_, v, _ := mixed.Solve(m)
		for c := range m[0] {
			for d := range m[0] {
				if holds(m, c, d, exact(v)) {
					return
				}
			}
		}
		t.Fatalf("Solve(%v) returns the value %v, which the second player can not hold", m, v)
	})
}

// TestBounds holds that the value is between those of package saddle.
func TestBounds(t *testing.T) {
	everyGame(func(m [][]int) {
		low, high, _ := saddle.Bounds(m)
		_, v, _ := mixed.Solve(m)
		if v.P < low*v.Q || v.P > high*v.Q {
			t.Fatalf("Solve(%v) returns the value %v, the bounds are %d and %d", m, v, low, high)
		}
	})
}

// TestColumns holds that the order of the columns, and how often each of them
// is there, do not matter.
func TestColumns(t *testing.T) {
	chance := rand.New(rand.NewSource(13))
	everyGame(func(m [][]int) {
		order := chance.Perm(len(m[0]))
		for len(order) < 6 {
			order = append(order, chance.Intn(len(m[0])))
		}
		other := oblong(2, len(order))
		for c, from := range order {
			other[0][c], other[1][c] = m[0][from], m[1][from]
		}
		x, v, _ := mixed.Solve(m)
		if x2, v2, e := mixed.Solve(other); x2 != x || v2 != v || e != api.OK {
			t.Fatalf("Solve(%v) = %v, %v, %d, but of %v: %v, %v", other, x2, v2, e, m, x, v)
		}
	})
}

// TestRows holds that with the rows the other way round, the value is the same,
// and the smallest x of the one game is not above the greatest of the other.
func TestRows(t *testing.T) {
	everyGame(func(m [][]int) {
		x, v, _ := mixed.Solve(m)
		x2, v2, e := mixed.Solve([][]int{m[1], m[0]})
		if v2 != v || e != api.OK || x.P*x2.Q+x2.P*x.Q > x.Q*x2.Q {
			t.Fatalf("Solve(%v) = %v, %v; with its rows the other way round: %v, %v, %d", m, x, v, x2, v2, e)
		}
		mirrored := new(big.Rat).Sub(big.NewRat(1, 1), exact(x2))
		if low, _ := worst(m, mirrored); low.Cmp(exact(v)) != 0 {
			t.Fatalf("Solve(%v) = %v, %v, but %v is not as good", m, x, v, mirrored)
		}
	})
}

// TestUnits holds that x stays where it is if all pay is counted in another
// unit and from another point, and that the value moves along.
func TestUnits(t *testing.T) {
	everySmallGame(func(m [][]int) {
		x, v, _ := mixed.Solve(m)
		for _, unit := range []int{1, 7, 300} {
			for _, more := range []int{-400, 0, 399} {
				other := oblong(2, len(m[0]))
				for r := range m {
					for c, pay := range m[r] {
						other[r][c] = unit*pay + more
					}
				}
				want := exact(v)
				want.Mul(want, big.NewRat(int64(unit), 1)).Add(want, big.NewRat(int64(more), 1))
				if x2, v2, e := mixed.Solve(other); x2 != x || exact(v2).Cmp(want) != 0 || e != api.OK {
					t.Fatalf("Solve(%v) = %v, %v, %d, want %v, %v", other, x2, v2, e, x, want)
				}
			}
		}
	})
}
