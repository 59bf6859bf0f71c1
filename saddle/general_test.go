package saddle_test

import (
	"slices"
	"testing"

	"feathermark/api"
	"feathermark/saddle"
)

// The general rules, P1 and P2, for the functions of this package.

// wild returns matrices of all kinds: right ones, near misses, and far ones.
func wild() [][][]int {
	all := [][][]int{make([][]int, 1000), {nil, {1}}, {nil, nil}, {{1}, nil, {1001}}}
	for _, c := range invalid() {
		all = append(all, c.m)
	}
	for _, c := range examples() {
		all = append(all, c.m)
	}
	for rows := range 8 {
		for columns := range 8 {
			all = append(all, oblong(rows, columns))
		}
	}
	return all
}

// call makes every call with this matrix.
func call(m [][]int) {
	saddle.Check(m)
	saddle.Bounds(m)
	saddle.Points(m)
	saddle.Turned(m)
}

func TestNothingPanics(t *testing.T) {
	defer func() {
		if r := recover(); r != nil {
			t.Error("panic:", r)
		}
	}()
	for _, m := range wild() {
		call(m)
	}
}

// withSpare returns a copy of m with spare memory behind the list and behind
// each row, which belongs to the caller, too.
func withSpare(m [][]int) [][]int {
	spare := make([][]int, 0, len(m)+1)
	for _, row := range m {
		spare = append(spare, append(slices.Clone(row), 77, 78, 79, 80, 81, 82)[:len(row)])
	}
	return append(spare, []int{83})[:len(m)]
}

// whole returns a list with all its spare memory, as a copy.
func whole(m [][]int) [][]int {
	var all [][]int
	for _, row := range m[:len(m)+1] {
		all = append(all, slices.Clone(row[:cap(row)]))
	}
	return all
}

func TestArgumentsStayAsTheyAre(t *testing.T) {
	for _, m := range wild() {
		m = withSpare(m)
		was := whole(m)
		call(m)
		if !slices.EqualFunc(whole(m), was, slices.Equal) {
			t.Errorf("%v became %v", was, whole(m))
		}
	}
}

// fill overwrites the memory of a slice, with its spare capacity.
func fill[T any](l []T, x T) {
	l = l[:cap(l)]
	for i := range l {
		l[i] = x
	}
}

func TestPointsReturnsNewMemory(t *testing.T) {
	for _, c := range examples() {
		m := withSpare(c.m)
		was := whole(m)
		l, _ := saddle.Points(m)
		again, _ := saddle.Points(m)
		fill(l, [2]int{-1, -1})
		third, _ := saddle.Points(m)
		if !slices.Equal(again, c.points) || !slices.Equal(third, c.points) || !slices.EqualFunc(whole(m), was, slices.Equal) {
			t.Errorf("%s: Points depends on an earlier result", c.name)
		}
	}
}

func TestTurnedReturnsNewMemory(t *testing.T) {
	for _, c := range examples() {
		m := withSpare(c.m)
		was := whole(m)
		l, _ := saddle.Turned(m)
		again, _ := saddle.Turned(m)
		for i := range l {
			fill(l[i], -2000-i)
		}
		for i := range l {
			for _, x := range l[i][:cap(l[i])] {
				if x != -2000-i {
					t.Fatalf("%s: row %d of Turned shares memory with another one", c.name, i)
				}
			}
		}
		fill(l, nil)
		third, _ := saddle.Turned(m)
		if !slices.EqualFunc(third, c.turned, slices.Equal) || !slices.EqualFunc(whole(m), was, slices.Equal) {
			t.Fatalf("%s: Turned depends on an earlier result", c.name)
		}
		for i := range m {
			fill(m[i], 9)
		}
		fill(m, nil)
		if !slices.EqualFunc(again, c.turned, slices.Equal) {
			t.Fatalf("%s: Turned shares memory with its argument", c.name)
		}
	}
}

// TestNothingIsKept changes the argument between calls: only what it holds at
// the call counts.
func TestNothingIsKept(t *testing.T) {
	m := oblong(2, 2)
	for range 2 {
		for _, c := range examples() {
			if len(c.m) != 2 || len(c.m[0]) != 2 {
				continue
			}
			for r := range m {
				copy(m[r], c.m[r])
			}
			if low, high, e := saddle.Bounds(m); low != c.low || high != c.high || e != api.OK {
				t.Errorf("%s: Bounds(%v) = %d, %d, %d", c.name, m, low, high, e)
			}
			if l, e := saddle.Points(m); !slices.Equal(l, c.points) || e != api.OK {
				t.Errorf("%s: Points(%v) = %v, %d", c.name, m, l, e)
			}
			if l, e := saddle.Turned(m); !slices.EqualFunc(l, c.turned, slices.Equal) || e != api.OK {
				t.Errorf("%s: Turned(%v) = %v, %d", c.name, m, l, e)
			}
		}
	}
}

func TestErrorsComeWithZeroValues(t *testing.T) {
	for _, c := range invalid() {
		if low, high, e := saddle.Bounds(c.m); low != 0 || high != 0 || e != c.e {
			t.Errorf("%s: Bounds(%v) = %d, %d, %d, want %d", c.name, c.m, low, high, e, c.e)
		}
		if l, e := saddle.Points(c.m); len(l) != 0 || e != c.e {
			t.Errorf("%s: Points(%v) = %v, %d, want %d", c.name, c.m, l, e, c.e)
		}
		if l, e := saddle.Turned(c.m); len(l) != 0 || e != c.e {
			t.Errorf("%s: Turned(%v) = %v, %d, want %d", c.name, c.m, l, e, c.e)
		}
	}
}

func TestNilIsAnEmptyList(t *testing.T) {
	for _, m := range [][][]int{nil, {}, {nil}, {{}}, {nil, {}}, {{}, nil}} {
		if e := saddle.Check(m); e != api.ErrLarge {
			t.Errorf("Check(%#v) = %d", m, e)
		}
	}
	for _, m := range [][][]int{{{1}, nil}, {{1}, {}}} {
		if e := saddle.Check(m); e != api.ErrForm {
			t.Errorf("Check(%#v) = %d", m, e)
		}
	}
}
