package widest_test

import (
	"math"
	"slices"
	"testing"

	"feathermark/api"
	"feathermark/widest"
)

// The general rules, P1 and P2, for the functions of this package.

// wild returns matrices of all kinds: right ones, near misses, and far ones.
func wild() [][][]int {
	all := [][][]int{nil, {}, {nil, nil}, make([][]int, 1000), {make([]int, 1000)}, {{math.MinInt}}, {{math.MaxInt}}}
	for _, c := range invalid() {
		all = append(all, c.m)
	}
	for _, c := range examples() {
		all = append(all, c.m)
	}
	for n := 1; n <= 3; n++ {
		all = append(all, smallest(n)...)
	}
	return all
}

// call makes every call with this matrix.
func call(m [][]int) {
	widest.Paths(m)
	widest.Winners(m)
}

func TestNothingPanics(t *testing.T) {
	defer func() {
		if r := recover(); r != nil {
			t.Error("panic:", r)
		}
	}()
	for _, m := range wild() {
		call(m)
	}
}

// withSpare returns a copy of m with spare memory behind the list and behind
// each row, which belongs to the caller, too.
func withSpare(m [][]int) [][]int {
	spare := make([][]int, 0, len(m)+1)
	for _, row := range m {
		spare = append(spare, append(slices.Clone(row), 77, 78, 79, 80, 81, 82)[:len(row)])
	}
	return append(spare, []int{83})[:len(m)]
}

// whole returns a matrix with all its spare memory, as a copy.
func whole(m [][]int) [][]int {
	var all [][]int
	for _, row := range m[:len(m)+1] {
		all = append(all, slices.Clone(row[:cap(row)]))
	}
	return all
}

func TestArgumentsStayAsTheyAre(t *testing.T) {
	for _, m := range wild() {
		m = withSpare(m)
		was := whole(m)
		call(m)
		if !equal(whole(m), was) {
			t.Errorf("%v became %v", was, whole(m))
		}
	}
}

// fill overwrites the memory of a slice, with its spare capacity.
func fill(l []int, x int) {
	l = l[:cap(l)]
	for i := range l {
		l[i] = x
	}
}

// fillRows removes all rows of a matrix, with its spare capacity.
func fillRows(m [][]int) {
	m = m[:cap(m)]
	for i := range m {
		m[i] = nil
	}
}

func TestPathsReturnsNewMemory(t *testing.T) {
	for _, c := range examples() {
		m := withSpare(c.m)
		was := whole(m)
		l, _ := widest.Paths(m)
		again, _ := widest.Paths(m)
		for x := range l {
			fill(l[x], -1-x)
		}
		for x := range l {
			if slices.ContainsFunc(l[x][:cap(l[x])], func(v int) bool { return v != -1-x }) {
				t.Fatalf("%s: row %d of Paths shares memory with another one", c.name, x)
			}
		}
		fillRows(l)
		third, _ := widest.Paths(m)
		if !equal(again, third) || !equal(whole(m), was) {
			t.Fatalf("%s: Paths depends on an earlier result", c.name)
		}
		for _, row := range m {
			fill(row, -9)
		}
		if !equal(again, c.paths) {
			t.Fatalf("%s: Paths shares memory with its argument", c.name)
		}
	}
}

func TestWinnersReturnsNewMemory(t *testing.T) {
	for _, c := range examples() {
		m := withSpare(c.m)
		was := whole(m)
		l, _ := widest.Winners(m)
		again, _ := widest.Winners(m)
		fill(l, -1)
		third, _ := widest.Winners(m)
		if !slices.Equal(again, third) || !equal(whole(m), was) {
			t.Fatalf("%s: Winners depends on an earlier result", c.name)
		}
		for _, row := range m {
			fill(row, -9)
		}
		if !slices.Equal(again, c.winners) {
			t.Fatalf("%s: Winners shares memory with its argument", c.name)
		}
	}
}

func TestErrorsComeWithZeroValues(t *testing.T) {
	for _, m := range wild() {
		l, e := widest.Paths(m)
		if e == api.OK && len(l) != len(m) || e != api.OK && len(l) != 0 {
			t.Errorf("Paths(%v) = %v, %d", m, l, e)
		}
		winners, e := widest.Winners(m)
		if e == api.OK && len(winners) == 0 || e != api.OK && len(winners) != 0 {
			t.Errorf("Winners(%v) = %v, %d", m, winners, e)
		}
	}
}

func TestNilIsAnEmptyList(t *testing.T) {
	pairs := [][2][][]int{{nil, {}}, {{nil}, {{}}}, {{{0, 0}, nil}, {{0, 0}, {}}}, {{nil, {0, 31}}, {{}, {0, 31}}}}
	for _, pair := range pairs {
		a, e := widest.Paths(pair[0])
		if b, f := widest.Paths(pair[1]); !equal(a, b) || e != f {
			t.Errorf("Paths of a nil list = %v, %d; of an empty one: %v, %d", a, e, b, f)
		}
		c, e := widest.Winners(pair[0])
		if d, f := widest.Winners(pair[1]); !slices.Equal(c, d) || e != f {
			t.Errorf("Winners of a nil list = %v, %d; of an empty one: %v, %d", c, e, d, f)
		}
	}
}
