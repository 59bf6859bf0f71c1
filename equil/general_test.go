package equil_test

import (
	"slices"
	"testing"

	"feathermark/api"
	"feathermark/equil"
)

// The general rules, P1 and P2, for the functions of this package.

// wild returns pairs of matrices of all kinds: right ones, near misses, and far
// ones.
func wild() [][2][][]int {
	var all [][2][][]int
	for _, c := range invalid() {
		all = append(all, [2][][]int{c.a, c.b})
	}
	for _, c := range examples() {
		all = append(all, [2][][]int{c.a, c.b})
	}
	far := [][][]int{make([][]int, 1000), {nil, {1}}, {{1}, nil, {1001}}}
	for rows := range 8 {
		for columns := range 8 {
			far = append(far, oblong(rows, columns))
		}
	}
	for _, a := range far {
		for _, b := range far {
			all = append(all, [2][][]int{a, b})
		}
	}
	return all
}

// call makes every call with these matrices.
func call(a, b [][]int) {
	equil.Check(a, b)
	equil.Rest(a, b)
	equil.Left(a, b)
}

func TestNothingPanics(t *testing.T) {
	defer func() {
		if r := recover(); r != nil {
			t.Error("panic:", r)
		}
	}()
	for _, g := range wild() {
		call(g[0], g[1])
	}
}

// withSpare returns a copy of m with spare memory behind the list and behind
// each row, which belongs to the caller, too.
func withSpare(m [][]int) [][]int {
	spare := make([][]int, 0, len(m)+1)
	for _, row := range m {
		spare = append(spare, append(slices.Clone(row), 77, 78, 79, 80, 81, 82)[:len(row)])
	}
	return append(spare, []int{83})[:len(m)]
}

// whole returns a list with all its spare memory, as a copy.
func whole(m [][]int) [][]int {
	var all [][]int
	for _, row := range m[:len(m)+1] {
		all = append(all, slices.Clone(row[:cap(row)]))
	}
	return all
}

// same tells whether two lists have the same rows.
func same(m, l [][]int) bool {
	return slices.EqualFunc(m, l, slices.Equal)
}

func TestArgumentsStayAsTheyAre(t *testing.T) {
	for _, g := range wild() {
		a, b := withSpare(g[0]), withSpare(g[1])
		wasA, wasB := whole(a), whole(b)
		call(a, b)
		if !same(whole(a), wasA) || !same(whole(b), wasB) {
			t.Errorf("%v, %v became %v, %v", wasA, wasB, whole(a), whole(b))
		}
	}
}

// fill overwrites the memory of a slice, with its spare capacity.
func fill[T any](l []T, x T) {
	l = l[:cap(l)]
	for i := range l {
		l[i] = x
	}
}

func TestRestReturnsNewMemory(t *testing.T) {
	for _, c := range examples() {
		a, b := withSpare(c.a), withSpare(c.b)
		wasA, wasB := whole(a), whole(b)
		l, _ := equil.Rest(a, b)
		again, _ := equil.Rest(a, b)
		fill(l, [2]int{-1, -1})
		third, _ := equil.Rest(a, b)
		if !slices.Equal(again, c.rest) || !slices.Equal(third, c.rest) || !same(whole(a), wasA) || !same(whole(b), wasB) {
			t.Errorf("%s: Rest depends on an earlier result", c.name)
		}
	}
}

func TestLeftReturnsNewMemory(t *testing.T) {
	for _, c := range examples() {
		a, b := withSpare(c.a), withSpare(c.b)
		wasA, wasB := whole(a), whole(b)
		x, y, _ := equil.Left(a, b)
		x2, y2, _ := equil.Left(a, b)
		fill(x, -1)
		if !slices.Equal(y, c.columns) {
			t.Errorf("%s: the results of Left share memory", c.name)
		}
		fill(y, -2)
		for _, n := range x[:cap(x)] {
			if n != -1 {
				t.Errorf("%s: the results of Left share memory", c.name)
			}
		}
		x3, y3, _ := equil.Left(a, b)
		if !slices.Equal(x2, c.rows) || !slices.Equal(y2, c.columns) || !slices.Equal(x3, c.rows) || !slices.Equal(y3, c.columns) {
			t.Errorf("%s: Left depends on an earlier result", c.name)
		}
		if !same(whole(a), wasA) || !same(whole(b), wasB) {
			t.Errorf("%s: the results of Left share memory with its arguments", c.name)
		}
	}
}

// TestSpareMemoryDoesNotMatter holds that only the elements of a slice count,
// and not what is behind them.
func TestSpareMemoryDoesNotMatter(t *testing.T) {
	for _, g := range wild() {
		a, b := withSpare(g[0]), withSpare(g[1])
		if e, e2 := equil.Check(g[0], g[1]), equil.Check(a, b); e != e2 {
			t.Errorf("Check(%v, %v) = %d, but %d with spare memory", a, b, e, e2)
		}
		l, _ := equil.Rest(g[0], g[1])
		if l2, _ := equil.Rest(a, b); !slices.Equal(l, l2) {
			t.Errorf("Rest(%v, %v) = %v, but %v with spare memory", a, b, l, l2)
		}
		x, y, _ := equil.Left(g[0], g[1])
		if x2, y2, _ := equil.Left(a, b); !slices.Equal(x, x2) || !slices.Equal(y, y2) {
			t.Errorf("Left(%v, %v) = %v, %v, but %v, %v with spare memory", a, b, x, y, x2, y2)
		}
	}
}

// TestNothingIsKept changes the arguments between calls: only what they hold at
// the call counts.
func TestNothingIsKept(t *testing.T) {
	a, b := oblong(2, 2), oblong(2, 2)
	for range 2 {
		for _, c := range examples() {
			if len(c.a) != 2 || len(c.a[0]) != 2 {
				continue
			}
			for r := range a {
				copy(a[r], c.a[r])
				copy(b[r], c.b[r])
			}
			if l, e := equil.Rest(a, b); !slices.Equal(l, c.rest) || e != api.OK {
				t.Errorf("%s: Rest(%v, %v) = %v, %d", c.name, a, b, l, e)
			}
			if x, y, e := equil.Left(a, b); !slices.Equal(x, c.rows) || !slices.Equal(y, c.columns) || e != api.OK {
				t.Errorf("%s: Left(%v, %v) = %v, %v, %d", c.name, a, b, x, y, e)
			}
			call(a, [][]int{{1, 1001}, {1}})
		}
	}
}

// TestMatricesMayBeTheSame has both players share one matrix, and one row.
func TestMatricesMayBeTheSame(t *testing.T) {
	row := []int{3, -4, 3}
	m := [][]int{row, row}
	if l, e := equil.Rest(m, m); !slices.Equal(l, [][2]int{{0, 0}, {0, 2}, {1, 0}, {1, 2}}) || e != api.OK {
		t.Errorf("Rest of a matrix twice = %v, %d", l, e)
	}
	if x, y, e := equil.Left(m, m); !slices.Equal(x, []int{0, 1}) || !slices.Equal(y, []int{0, 2}) || e != api.OK {
		t.Errorf("Left of a matrix twice = %v, %v, %d", x, y, e)
	}
}

func TestNilIsAnEmptyList(t *testing.T) {
	right := [][]int{{1}}
	for _, m := range [][][]int{nil, {}, {nil}, {{}}, {nil, nil}, {{}, {}}, {nil, {}}, {{}, nil}} {
		for _, g := range [][2][][]int{{m, right}, {right, m}, {m, m}} {
			if e := equil.Check(g[0], g[1]); e != api.ErrLarge {
				t.Errorf("Check(%#v, %#v) = %d", g[0], g[1], e)
			}
		}
	}
	for _, m := range [][][]int{{{1}, nil}, {{1}, {}}} {
		for _, g := range [][2][][]int{{m, right}, {right, m}, {m, m}} {
			if e := equil.Check(g[0], g[1]); e != api.ErrForm {
				t.Errorf("Check(%#v, %#v) = %d", g[0], g[1], e)
			}
		}
	}
}
