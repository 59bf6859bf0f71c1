package seats_test

import (
	"math"
	"slices"
	"testing"

	"feathermark/api"
	"feathermark/seats"
)

// The general rules, P1 and P2, for the functions of this package.

// numbers are ways and numbers of seats, right and wrong.
func numbers() []int {
	return []int{math.MinInt, -7, -1, 0, 1, 2, 3, 4, 5, 8, 99, 100, 101, 1000000, math.MaxInt}
}

// wild returns votes of all kinds: right ones, near misses, and far ones.
func wild() [][]int {
	wild := [][]int{nil, {}, {math.MinInt, math.MaxInt}, make([]int, 1000), same(8, 1000000), same(8, math.MaxInt)}
	for _, c := range invalid() {
		wild = append(wild, c.people)
	}
	for _, c := range examples() {
		wild = append(wild, c.people)
	}
	return append(wild, manyVotes(6)...)
}

// call makes every call with these votes.
func call(people []int) {
	for _, house := range numbers() {
		seats.Check(people, house)
		for _, way := range numbers() {
			seats.Share(way, people, house)
		}
	}
}

func TestNothingPanics(t *testing.T) {
	defer func() {
		if r := recover(); r != nil {
			t.Error("panic:", r)
		}
	}()
	for _, people := range wild() {
		call(people)
	}
}

// withSpare returns a copy of a list with spare memory behind it, which
// belongs to the caller, too.
func withSpare(l []int) []int {
	return append(slices.Clone(l), 77, 78)[:len(l)]
}

// whole returns a list with all its spare memory, as a copy.
func whole(l []int) []int {
	return slices.Clone(l[:cap(l)])
}

func TestArgumentsStayAsTheyAre(t *testing.T) {
	for _, people := range wild() {
		people = withSpare(people)
		was := whole(people)
		call(people)
		if !slices.Equal(whole(people), was) {
			t.Errorf("%v became %v", was, whole(people))
		}
	}
}

// fill overwrites the memory of a slice, with its spare capacity.
func fill(l []int, x int) {
	l = l[:cap(l)]
	for i := range l {
		l[i] = x
	}
}

func TestShareReturnsNewMemory(t *testing.T) {
	for _, c := range examples() {
		for i, way := range everyWay() {
			people := withSpare(c.people)
			was := whole(people)
			l, _ := seats.Share(way, people, c.house)
			again, _ := seats.Share(way, people, c.house)
			fill(l, -1)
			third, _ := seats.Share(way, people, c.house)
			if !slices.Equal(again, third) || !slices.Equal(whole(people), was) {
				t.Fatalf("%s: Share in way %d depends on an earlier result", c.name, way)
			}
			fill(people, -2)
			if !slices.Equal(again, c.shares[i]) {
				t.Fatalf("%s: Share in way %d shares memory with its argument", c.name, way)
			}
		}
	}
}

// TestNothingIsKept changes the votes between two calls, and makes the first
// call again: only the arguments count.
func TestNothingIsKept(t *testing.T) {
	people := make([]int, 3)
	for range 2 {
		for _, way := range everyWay() {
			copy(people, []int{6, 3, 1})
			if l, e := seats.Share(way, people, 3); !slices.Equal(l, []int{2, 1, 0}) || e != api.OK {
				t.Errorf("Share(%d, %v, 3) = %v, %d", way, people, l, e)
			}
			copy(people, []int{1, 3, 6})
			if l, e := seats.Share(way, people, 1); !slices.Equal(l, []int{0, 0, 1}) || e != api.OK {
				t.Errorf("Share(%d, %v, 1) = %v, %d", way, people, l, e)
			}
			copy(people, []int{0, 0, 0})
			if l, e := seats.Share(way, people, 3); len(l) != 0 || e != api.ErrNone {
				t.Errorf("Share(%d, %v, 3) = %v, %d", way, people, l, e)
			}
		}
	}
}

func TestErrorsComeWithZeroValues(t *testing.T) {
	for _, people := range wild() {
		for _, way := range numbers() {
			for _, house := range numbers() {
				if l, e := seats.Share(way, people, house); (e == api.OK) != (len(l) > 0) {
					t.Errorf("Share(%d, %v, %d) = %v, %d", way, people, house, l, e)
				}
			}
		}
	}
}

func TestNilIsAnEmptyList(t *testing.T) {
	for _, house := range numbers() {
		if e, f := seats.Check(nil, house), seats.Check([]int{}, house); e != f {
			t.Errorf("Check(nil, %d) = %d; with an empty list: %d", house, e, f)
		}
		for _, way := range numbers() {
			a, e := seats.Share(way, nil, house)
			if b, f := seats.Share(way, []int{}, house); !slices.Equal(a, b) || e != f {
				t.Errorf("Share(%d, nil, %d) = %v, %d; with an empty list: %v, %d", way, house, a, e, b, f)
			}
		}
	}
}
