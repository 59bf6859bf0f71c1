package order_test

import (
	"slices"
	"testing"

	"feathermark/api"
	"feathermark/order"
)

// The general rules, P1 and P2, for the functions of this package.

// calls makes every call with p, and with p and each of some numbers.
func calls(p []int) {
	order.Far(p, p)
	for _, x := range numbers() {
		order.Check(x, p)
		order.Place(p, x)
		order.Raise(p, x)
	}
}

func TestNothingPanics(t *testing.T) {
	defer func() {
		if r := recover(); r != nil {
			t.Error("panic:", r)
		}
	}()
	for _, p := range wild() {
		calls(p)
		for _, q := range [][]int{nil, {}, {0}, {0, 1}, {1, 0, 2}, {3, 0, 1, 2}, {0, 4}, {-1}, make([]int, 1000)} {
			order.Far(p, q)
			order.Far(q, p)
		}
	}
	for _, n := range numbers() {
		order.All(n)
	}
}

func TestArgumentsStayAsTheyAre(t *testing.T) {
	for _, p := range wild() {
		// Memory behind the end of p belongs to the caller, too.
		memory := append(slices.Clone(p), 77, 78)
		before := slices.Clone(memory)
		calls(memory[:len(p)])
		if !slices.Equal(memory, before) {
			t.Errorf("%v became %v", before, memory)
		}
	}
}

// fill overwrites the memory of a slice, with its spare capacity.
func fill(l []int, x int) {
	l = l[:cap(l)]
	for i := range l {
		l[i] = x
	}
}

func TestRaiseReturnsNewMemory(t *testing.T) {
	for n := 2; n <= 6; n++ {
		for _, p := range all(n) {
			before := slices.Clone(p)
			l, _ := order.Raise(p, p[n-1])
			again, _ := order.Raise(p, p[n-1])
			fill(l, -1)
			if !slices.Equal(p, before) {
				t.Fatalf("Raise shares memory with its argument %v", before)
			}
			fill(p, -2)
			third, _ := order.Raise(before, before[n-1])
			if !slices.Equal(again, third) {
				t.Fatalf("Raise(%v) kept its argument or its result: %v, then %v", before, again, third)
			}
		}
	}
}

func TestAllReturnsNewMemory(t *testing.T) {
	for n := 1; n <= 6; n++ {
		l, _ := order.All(n)
		again, _ := order.All(n)
		for i := range l {
			fill(l[i], -1-i)
		}
		for i := range l {
			if l[i][0] != -1-i || l[i][n-1] != -1-i {
				t.Fatalf("All(%d): list %d shares memory with another one", n, i)
			}
		}
		fillRows(l)
		third, _ := order.All(n)
		if !slices.EqualFunc(again, third, slices.Equal) || len(third) != len(all(n)) {
			t.Fatalf("All(%d) depends on an earlier result", n)
		}
	}
}

// fillRows removes all rows of a list, with its spare capacity.
func fillRows(l [][]int) {
	l = l[:cap(l)]
	for i := range l {
		l[i] = nil
	}
}

func TestErrorsComeWithZeroValues(t *testing.T) {
	for _, p := range wild() {
		if far, e := order.Far(p, nil); e == api.OK || far != 0 {
			t.Errorf("Far(%v, nil) = %d, %d", p, far, e)
		}
		for _, x := range numbers() {
			if i, e := order.Place(p, x); e != api.OK && i != 0 {
				t.Errorf("Place(%v, %d) = %d, %d", p, x, i, e)
			}
			if l, e := order.Raise(p, x); e != api.OK && len(l) != 0 {
				t.Errorf("Raise(%v, %d) = %v, %d", p, x, l, e)
			}
		}
	}
	for _, n := range numbers() {
		if l, e := order.All(n); e != api.OK && len(l) != 0 {
			t.Errorf("All(%d) = %v, %d", n, l, e)
		}
	}
}

// orNil returns nil for a list without elements.
func orNil(p []int) []int {
	if len(p) == 0 {
		return nil
	}
	return p
}

func TestNilIsAnEmptyList(t *testing.T) {
	for _, p := range [][]int{{}, {0}, {0, 1}} {
		a, e := order.Far(p, []int{})
		b, f := order.Far(orNil(p), nil)
		if a != b || e != f {
			t.Errorf("Far(%v, empty) = %d, %d; with nil: %d, %d", p, a, e, b, f)
		}
	}
	for _, n := range numbers() {
		if e, f := order.Check(n, []int{}), order.Check(n, nil); e != f {
			t.Errorf("Check(%d, empty) = %d; with nil: %d", n, e, f)
		}
		i, e := order.Place([]int{}, n)
		if k, f := order.Place(nil, n); i != k || e != f {
			t.Errorf("Place(empty, %d) = %d, %d; with nil: %d, %d", n, i, e, k, f)
		}
		l, e := order.Raise([]int{}, n)
		if m, f := order.Raise(nil, n); len(l) != len(m) || e != f {
			t.Errorf("Raise(empty, %d) = %v, %d; with nil: %v, %d", n, l, e, m, f)
		}
	}
}
