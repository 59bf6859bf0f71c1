// Package order implements preference orders: see doc/01-order.md.
package order

import (
	"slices"

	"feathermark/api"
)

// Check tells whether p is an order of n alternatives: P3.
func Check(n int, p []int) api.Errno {
	if n < 1 || n > api.MaxSides {
		return api.ErrArg
	}
	if len(p) != n {
		return api.ErrForm
	}
	var seen [api.MaxSides]bool
	for _, x := range p {
		if x < 0 || x >= n || seen[x] {
			return api.ErrForm
		}
		seen[x] = true
	}
	return api.OK
}

// Place returns the index of x in p: P4.
func Place(p []int, x int) (int, api.Errno) {
	if e := Check(len(p), p); e != api.OK {
		return 0, e
	}
	i := slices.Index(p, x)
	if i < 0 {
		return 0, api.ErrNone
	}
	return i, api.OK
}

// Far returns the number of pairs that p and q rank differently: P5.
func Far(p, q []int) (int, api.Errno) {
	n := len(p)
	if e := Check(n, p); e != api.OK {
		return 0, e
	}
	if e := Check(n, q); e != api.OK {
		return 0, e
	}
	at := places(q)
	far := 0
	for i, x := range p {
		for _, y := range p[i+1:] {
			if at[x] > at[y] {
				far++
			}
		}
	}
	return far, api.OK
}

// places returns the index of each alternative in the order q.
func places(q []int) [api.MaxSides]int {
	var at [api.MaxSides]int
	for i, x := range q {
		at[x] = i
	}
	return at
}

// Raise returns p with x moved one place to the front: P6.
func Raise(p []int, x int) ([]int, api.Errno) {
	i, e := Place(p, x)
	if e != api.OK {
		return nil, e
	}
	if i == 0 {
		return nil, api.ErrState
	}
	raised := slices.Clone(p)
	raised[i-1], raised[i] = raised[i], raised[i-1]
	return raised, api.OK
}

// All returns all orders of n alternatives in lexicographic order: P7.
func All(n int) ([][]int, api.Errno) {
	if n < 1 || n > api.MaxSides {
		return nil, api.ErrArg
	}
	p := make([]int, n)
	for i := range p {
		p[i] = i
	}
	all := [][]int{slices.Clone(p)}
	for advance(p) {
		all = append(all, slices.Clone(p))
	}
	return all, api.OK
}

// advance changes p to the next order in lexicographic order. It returns
// false, and leaves p as it is, if p is the last one.
func advance(p []int) bool {
	i := len(p) - 2
	for i >= 0 && p[i] > p[i+1] {
		i--
	}
	if i < 0 {
		return false
	}
	j := len(p) - 1
	for p[j] < p[i] {
		j--
	}
	p[i], p[j] = p[j], p[i]
	// What follows i is decreasing now; its smallest arrangement is the reverse.
	slices.Reverse(p[i+1:])
	return true
}
