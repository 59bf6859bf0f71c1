package mixed_test

import (
	"slices"
	"testing"

	"feathermark/api"
	"feathermark/mixed"
)

// The general rules, P1 and P2, for the function of this package.

// wild returns matrices of all kinds: right ones, near misses, and far ones.
func wild() [][][]int {
	all := [][][]int{make([][]int, 1000), {nil, {1}}, {{1}, nil, {1001}}}
	for _, c := range invalid() {
		all = append(all, c.m)
	}
	for _, c := range examples() {
		all = append(all, c.m)
	}
	for rows := range 8 {
		for columns := range 8 {
			all = append(all, oblong(rows, columns))
		}
	}
	return all
}

func TestNothingPanics(t *testing.T) {
	defer func() {
		if r := recover(); r != nil {
			t.Error("panic:", r)
		}
	}()
	for _, m := range wild() {
		mixed.Solve(m)
	}
}

// withSpare returns a copy of m with spare memory behind the list and behind
// each row, which belongs to the caller, too.
func withSpare(m [][]int) [][]int {
	spare := make([][]int, 0, len(m)+1)
	for _, row := range m {
		spare = append(spare, append(slices.Clone(row), 77, 78, 79, 80, 81, 82)[:len(row)])
	}
	return append(spare, []int{83})[:len(m)]
}

// whole returns a list with all its spare memory, as a copy.
func whole(m [][]int) [][]int {
	var all [][]int
	for _, row := range m[:len(m)+1] {
		all = append(all, slices.Clone(row[:cap(row)]))
	}
	return all
}

func TestArgumentsStayAsTheyAre(t *testing.T) {
	for _, m := range wild() {
		m = withSpare(m)
		was := whole(m)
		mixed.Solve(m)
		if !slices.EqualFunc(whole(m), was, slices.Equal) {
			t.Errorf("%v became %v", was, whole(m))
		}
	}
}

// TestSpareMemoryDoesNotMatter holds that only the elements of a slice count,
// and not what is behind them.
func TestSpareMemoryDoesNotMatter(t *testing.T) {
	for _, m := range wild() {
		x, v, e := mixed.Solve(m)
		if x2, v2, e2 := mixed.Solve(withSpare(m)); x2 != x || v2 != v || e2 != e {
			t.Errorf("Solve(%v) = %v, %v, %d, but %v, %v, %d with spare memory", m, x, v, e, x2, v2, e2)
		}
	}
}

// TestNothingIsKept changes the argument between calls: only what it holds at
// the call counts.
func TestNothingIsKept(t *testing.T) {
	m := oblong(2, 2)
	for range 2 {
		for _, c := range examples() {
			if len(c.m[0]) != 2 {
				continue
			}
			for r := range m {
				copy(m[r], c.m[r])
			}
			if x, v, e := mixed.Solve(m); x != c.x || v != c.value || e != api.OK {
				t.Errorf("%s: Solve(%v) = %v, %v, %d", c.name, m, x, v, e)
			}
			mixed.Solve([][]int{{1, 1001}, {1}})
		}
	}
}

// TestRowsMayBeTheSame solves games whose rows share their memory.
func TestRowsMayBeTheSame(t *testing.T) {
	row := []int{3, -4, 5}
	if x, v, e := mixed.Solve([][]int{row, row}); x != ratio(0, 1) || v != ratio(-4, 1) || e != api.OK {
		t.Errorf("Solve of a row twice = %v, %v, %d", x, v, e)
	}
}

func TestNilIsAnEmptyList(t *testing.T) {
	for _, m := range [][][]int{nil, {}, {nil}, {{}}, {nil, nil}, {{}, {}}, {nil, {}}, {{}, nil}} {
		if _, _, e := mixed.Solve(m); e != api.ErrLarge {
			t.Errorf("Solve(%#v) returns error %d", m, e)
		}
	}
	for _, m := range [][][]int{{{1}, nil}, {{1}, {}}} {
		if _, _, e := mixed.Solve(m); e != api.ErrForm {
			t.Errorf("Solve(%#v) returns error %d", m, e)
		}
	}
}
