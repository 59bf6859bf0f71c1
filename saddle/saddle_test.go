package saddle_test

import (
	"math"
	"math/rand"
	"slices"
	"testing"

	"feathermark/api"
	"feathermark/saddle"
)

// oblong returns a matrix of that many rows and columns, all of it 0.
func oblong(rows, columns int) [][]int {
	m := make([][]int, rows)
	for r := range m {
		m[r] = make([]int, columns)
	}
	return m
}

// with returns a copy of m in which entry c of row r is v.
func with(m [][]int, r, c, v int) [][]int {
	var l [][]int
	for _, row := range m {
		l = append(l, slices.Clone(row))
	}
	l[r][c] = v
	return l
}

// manyMatrices returns matrices of that many rows and columns, by chance, but
// the same ones at each run.
func manyMatrices(rows, columns int) [][][]int {
	var all [][][]int
	chance := rand.New(rand.NewSource(int64(10*rows + columns)))
	for i := range 400 {
		// Few different values make many saddle points.
		values := []int{1, 2, 3, 10, 1000}[i%5]
		m := oblong(rows, columns)
		for r := range m {
			for c := range m[r] {
				m[r][c] = chance.Intn(2*values+1) - values
			}
		}
		all = append(all, m)
	}
	for range 100 {
		all = append(all, sloping(rows, columns, chance))
	}
	return all
}

// sloping returns a matrix with a saddle point: each entry is the sum of a
// number of its row and one of its column.
func sloping(rows, columns int, chance *rand.Rand) [][]int {
	m := oblong(rows, columns)
	for c := range columns {
		x := chance.Intn(3) - 1
		for r := range m {
			m[r][c] += x
		}
	}
	for r := range m {
		x := chance.Intn(3) - 1
		for c := range m[r] {
			m[r][c] += x
		}
	}
	return m
}

// rejected is a matrix, and the error that it causes.
type rejected struct {
	name string
	m    [][]int
	e    api.Errno
}

// invalid are matrices that all functions reject.
func invalid() []rejected {
	return []rejected{
		{"nil", nil, api.ErrLarge},
		{"empty", [][]int{}, api.ErrLarge},
		{"7 rows", oblong(7, 1), api.ErrLarge},
		{"7 rows of 6", oblong(7, 6), api.ErrLarge},
		{"7 rows of 7", oblong(7, 7), api.ErrLarge},
		{"7 rows without entries", make([][]int, 7), api.ErrLarge},
		{"7 rows, one too short", [][]int{{1, 2}, {1}, {1, 2}, {1, 2}, {1, 2}, {1, 2}, {1, 2}}, api.ErrLarge},
		{"7 rows with a wrong entry", with(oblong(7, 1), 0, 0, 1001), api.ErrLarge},
		{"1000 rows", oblong(1000, 2), api.ErrLarge},
		{"a nil row", [][]int{nil}, api.ErrLarge},
		{"an empty row", [][]int{{}}, api.ErrLarge},
		{"6 empty rows", make([][]int, 6), api.ErrLarge},
		{"a row of 7", oblong(1, 7), api.ErrLarge},
		{"6 rows of 7", oblong(6, 7), api.ErrLarge},
		{"a row of 1000", oblong(1, 1000), api.ErrLarge},
		{"a row of 7 with a wrong entry", with(oblong(2, 7), 0, 0, 1001), api.ErrLarge},
		{"a short second row", [][]int{{1, 2}, {1}}, api.ErrForm},
		{"a long second row", [][]int{{1}, {1, 2}}, api.ErrForm},
		{"a nil second row", [][]int{{1}, nil}, api.ErrForm},
		{"a short last row", [][]int{{1, 2}, {3, 4}, {5}}, api.ErrForm},
		{"a long last row", [][]int{{1, 2}, {3, 4}, {5, 6, 7}}, api.ErrForm},
		{"a second row of 7", [][]int{{1, 2}, make([]int, 7)}, api.ErrForm},
		{"an empty row, then one that is not", [][]int{{}, {1}}, api.ErrLarge},
		{"a row of 7, then a shorter one", [][]int{make([]int, 7), {1}}, api.ErrLarge},
		{"too much", [][]int{{1001}}, api.ErrArg},
		{"too little", [][]int{{-1001}}, api.ErrArg},
		{"far too much", [][]int{{1, 2}, {3, math.MaxInt}}, api.ErrArg},
		{"far too little", [][]int{{1, 2}, {math.MinInt, 4}}, api.ErrArg},
		{"a long row with a wrong entry", [][]int{{1}, {1001, 2}}, api.ErrForm},
		{"a short row with a wrong entry", [][]int{{1, 2}, {-1001}}, api.ErrForm},
		{"a wrong entry, then a short row", [][]int{{1, 1001}, {1}}, api.ErrArg},
		{"a wrong entry, then a nil row", [][]int{{1, -1001}, nil}, api.ErrArg},
		{"a short row, then a wrong entry", [][]int{{1, 2}, {1}, {1, 1001}}, api.ErrForm},
	}
}

func TestCheck(t *testing.T) {
	for rows := 1; rows <= 6; rows++ {
		for columns := 1; columns <= 6; columns++ {
			for _, m := range manyMatrices(rows, columns) {
				if e := saddle.Check(m); e != api.OK {
					t.Fatalf("Check(%v) = %d", m, e)
				}
			}
		}
	}
	for _, c := range invalid() {
		if e := saddle.Check(c.m); e != c.e {
			t.Errorf("%s: Check(%v) = %d, want %d", c.name, c.m, e, c.e)
		}
	}
}

// TestCheckOfEachSize checks matrices of all sizes around the limits.
func TestCheckOfEachSize(t *testing.T) {
	for rows := range 10 {
		for columns := range 10 {
			want := api.OK
			if rows < 1 || rows > 6 || columns < 1 || columns > 6 {
				want = api.ErrLarge
			}
			if e := saddle.Check(oblong(rows, columns)); e != want {
				t.Errorf("Check of %d rows of %d = %d, want %d", rows, columns, e, want)
			}
		}
	}
}

// TestCheckOfEachEntry puts values at the limits at each place of a matrix.
func TestCheckOfEachEntry(t *testing.T) {
	limits := map[int]api.Errno{-1001: api.ErrArg, -1000: api.OK, 0: api.OK, 1000: api.OK, 1001: api.ErrArg}
	for rows := 1; rows <= 6; rows++ {
		for columns := 1; columns <= 6; columns++ {
			for r := range rows {
				for c := range columns {
					for v, want := range limits {
						m := with(oblong(rows, columns), r, c, v)
						if e := saddle.Check(m); e != want {
							t.Errorf("Check(%v) = %d, want %d", m, e, want)
						}
					}
				}
			}
		}
	}
}

// TestCheckOfEachRow makes each row but the first one too short and too long.
func TestCheckOfEachRow(t *testing.T) {
	for rows := 2; rows <= 6; rows++ {
		for columns := 1; columns <= 6; columns++ {
			for r := 1; r < rows; r++ {
				for _, length := range []int{0, columns - 1, columns + 1, 7, 100} {
					m := oblong(rows, columns)
					m[r] = make([]int, length)
					if e := saddle.Check(m); e != api.ErrForm {
						t.Errorf("Check(%v) = %d, want ErrForm", m, e)
					}
				}
			}
		}
	}
}

// results are what the functions return for a matrix.
type results struct {
	name      string
	m         [][]int
	low, high int
	points    [][2]int
	turned    [][]int
}

func examples() []results {
	return []results{
		{"the chapter's", [][]int{{1, 2}, {0, 3}}, 1, 1, [][2]int{{0, 0}}, [][]int{{-1, 0}, {-2, -3}}},
		{"one entry", [][]int{{5}}, 5, 5, [][2]int{{0, 0}}, [][]int{{-5}}},
		{"one row", [][]int{{4, -7, 0, -7}}, -7, -7, [][2]int{{0, 1}, {0, 3}}, [][]int{{-4}, {7}, {0}, {7}}},
		{"one column", [][]int{{4}, {-7}, {9}, {9}}, 9, 9, [][2]int{{2, 0}, {3, 0}}, [][]int{{-4, 7, -9, -9}}},
		{"pennies", [][]int{{1, -1}, {-1, 1}}, -1, 1, nil, [][]int{{-1, 1}, {1, -1}}},
		{"scissors", [][]int{{0, -1, 1}, {1, 0, -1}, {-1, 1, 0}}, -1, 1, nil, [][]int{{0, -1, 1}, {1, 0, -1}, {-1, 1, 0}}},
		{"the last entry", [][]int{{3, 1}, {4, 2}}, 2, 2, [][2]int{{1, 1}}, [][]int{{-3, -4}, {-1, -2}}},
		{"all the same", [][]int{{2, 2, 2}, {2, 2, 2}}, 2, 2, [][2]int{{0, 0}, {0, 1}, {0, 2}, {1, 0}, {1, 1}, {1, 2}}, [][]int{{-2, -2}, {-2, -2}, {-2, -2}}},
		{"four corners", [][]int{{1, 5, 1}, {0, 9, -4}, {1, 2, 1}}, 1, 1, [][2]int{{0, 0}, {0, 2}, {2, 0}, {2, 2}}, [][]int{{-1, 0, -1}, {-5, -9, -2}, {-1, 4, -1}}},
		{"the value elsewhere, too", [][]int{{1, 2}, {0, 1}}, 1, 1, [][2]int{{0, 0}}, [][]int{{-1, 0}, {-2, -1}}},
		{"all below 0", [][]int{{-5, -3}, {-4, -6}}, -5, -4, nil, [][]int{{5, 4}, {3, 6}}},
		{"all above 0", [][]int{{5, 3, 9}, {4, 6, 8}}, 4, 5, nil, [][]int{{-5, -4}, {-3, -6}, {-9, -8}}},
		{"the limits", [][]int{{-1000, 1000}, {1000, -1000}}, -1000, 1000, nil, [][]int{{1000, -1000}, {-1000, 1000}}},
		{"the least", [][]int{{-1000, -1000}}, -1000, -1000, [][2]int{{0, 0}, {0, 1}}, [][]int{{1000}, {1000}}},
		{"the most", [][]int{{1000}, {1000}}, 1000, 1000, [][2]int{{0, 0}, {1, 0}}, [][]int{{-1000, -1000}}},
	}
}

func TestExamples(t *testing.T) {
	for _, c := range examples() {
		if low, high, e := saddle.Bounds(c.m); low != c.low || high != c.high || e != api.OK {
			t.Errorf("%s: Bounds(%v) = %d, %d, %d, want %d, %d", c.name, c.m, low, high, e, c.low, c.high)
		}
		if l, e := saddle.Points(c.m); !slices.Equal(l, c.points) || e != api.OK {
			t.Errorf("%s: Points(%v) = %v, %d, want %v", c.name, c.m, l, e, c.points)
		}
		if l, e := saddle.Turned(c.m); !slices.EqualFunc(l, c.turned, slices.Equal) || e != api.OK {
			t.Errorf("%s: Turned(%v) = %v, %d, want %v", c.name, c.m, l, e, c.turned)
		}
	}
}

// everyMatrix calls f with many matrices of each size.
func everyMatrix(f func(m [][]int)) {
	for rows := 1; rows <= 6; rows++ {
		for columns := 1; columns <= 6; columns++ {
			for _, m := range manyMatrices(rows, columns) {
				f(m)
			}
		}
	}
}

// atLeast tells whether the first player has a row that pays v or more,
// whatever the second one does.
func atLeast(m [][]int, v int) bool {
	return slices.ContainsFunc(m, func(row []int) bool {
		return !slices.ContainsFunc(row, func(pay int) bool { return pay < v })
	})
}

// atMost tells whether the second player has a column that costs v or less,
// whatever the first one does.
func atMost(m [][]int, v int) bool {
	for c := range m[0] {
		if !slices.ContainsFunc(m, func(row []int) bool { return row[c] > v }) {
			return true
		}
	}
	return false
}

// TestBoundsOfManyMatrices holds the bounds against what the players can make
// sure of.
func TestBoundsOfManyMatrices(t *testing.T) {
	everyMatrix(func(m [][]int) {
		low, high, e := saddle.Bounds(m)
		if e != api.OK || !atLeast(m, low) || atLeast(m, low+1) || !atMost(m, high) || atMost(m, high-1) {
			t.Fatalf("Bounds(%v) = %d, %d, %d", m, low, high, e)
		}
		if low > high {
			t.Fatalf("Bounds(%v) = %d, %d: the maximin value is greater", m, low, high)
		}
	})
}

// stable tells whether neither player gains by leaving row r and column c.
func stable(m [][]int, r, c int) bool {
	for other := range m {
		if m[other][c] > m[r][c] {
			return false
		}
	}
	for other := range m[r] {
		if m[r][other] < m[r][c] {
			return false
		}
	}
	return true
}

func TestPointsOfManyMatrices(t *testing.T) {
	counts := make([]int, 37)
	everyMatrix(func(m [][]int) {
		var want [][2]int
		for r := range m {
			for c := range m[r] {
				if stable(m, r, c) {
					want = append(want, [2]int{r, c})
				}
			}
		}
		counts[len(want)]++
		if l, e := saddle.Points(m); !slices.Equal(l, want) || e != api.OK {
			t.Fatalf("Points(%v) = %v, %d, want %v", m, l, e, want)
		}
	})
	if slices.Min(counts[:5]) < 100 {
		t.Errorf("there are too few matrices with 0 to 4 points: %v", counts[:5])
	}
}

// TestPointsAndBounds holds that there are saddle points exactly if the bounds
// are equal, and that each is worth as much.
func TestPointsAndBounds(t *testing.T) {
	everyMatrix(func(m [][]int) {
		low, high, _ := saddle.Bounds(m)
		points, _ := saddle.Points(m)
		if (low == high) != (len(points) > 0) {
			t.Fatalf("%v: the bounds are %d and %d, the points %v", m, low, high, points)
		}
		for _, p := range points {
			if m[p[0]][p[1]] != low {
				t.Fatalf("%v: the bounds are %d and %d, the points %v", m, low, high, points)
			}
			for _, q := range points {
				if !slices.Contains(points, [2]int{p[0], q[1]}) {
					t.Fatalf("%v: the points %v are not interchangeable", m, points)
				}
			}
		}
	})
}

func TestTurnedOfManyMatrices(t *testing.T) {
	everyMatrix(func(m [][]int) {
		turned, e := saddle.Turned(m)
		if e != api.OK || len(turned) != len(m[0]) {
			t.Fatalf("Turned(%v) = %v, %d", m, turned, e)
		}
		for c, row := range turned {
			if len(row) != len(m) {
				t.Fatalf("Turned(%v) = %v", m, turned)
			}
			for r, pay := range row {
				if pay != -m[r][c] {
					t.Fatalf("Turned(%v) = %v", m, turned)
				}
			}
		}
		if again, e := saddle.Turned(turned); !slices.EqualFunc(again, m, slices.Equal) || e != api.OK {
			t.Fatalf("Turned(Turned(%v)) = %v, %d", m, again, e)
		}
	})
}

// TestTurnedGames holds the results for a game against those for the same game
// from the point of view of the second player.
func TestTurnedGames(t *testing.T) {
	everyMatrix(func(m [][]int) {
		turned, _ := saddle.Turned(m)
		low, high, _ := saddle.Bounds(m)
		if a, b, e := saddle.Bounds(turned); a != -high || b != -low || e != api.OK {
			t.Fatalf("Bounds(%v) = %d, %d, %d; turned: %d, %d", turned, a, b, e, low, high)
		}
		points, _ := saddle.Points(m)
		other, e := saddle.Points(turned)
		if len(other) != len(points) || e != api.OK {
			t.Fatalf("Points(%v) = %v, %d; turned: %v", turned, other, e, points)
		}
		for _, p := range points {
			if !slices.Contains(other, [2]int{p[1], p[0]}) {
				t.Fatalf("Points(%v) = %v; turned: %v", turned, other, points)
			}
		}
	})
}

// TestNames holds the results against those of the same game with its rows and
// columns in another order.
func TestNames(t *testing.T) {
	chance := rand.New(rand.NewSource(11))
	everyMatrix(func(m [][]int) {
		rows, columns := chance.Perm(len(m)), chance.Perm(len(m[0]))
		other := oblong(len(m), len(m[0]))
		for r := range m {
			for c := range m[r] {
				other[rows[r]][columns[c]] = m[r][c]
			}
		}
		low, high, _ := saddle.Bounds(m)
		if a, b, e := saddle.Bounds(other); a != low || b != high || e != api.OK {
			t.Fatalf("Bounds(%v) = %d, %d, %d, but of %v: %d, %d", other, a, b, e, m, low, high)
		}
		points, _ := saddle.Points(m)
		moved, _ := saddle.Points(other)
		for _, p := range points {
			if len(moved) != len(points) || !slices.Contains(moved, [2]int{rows[p[0]], columns[p[1]]}) {
				t.Fatalf("Points(%v) = %v, but of %v: %v", other, moved, m, points)
			}
		}
	})
}
