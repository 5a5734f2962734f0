package tests

import (
	"iter"
	"math"
	"slices"
	"testing"
)

const pointsMax = 4

// relationAt returns the relation on n points whose rows are the digits of code to the base 2 to the power of n.
func relationAt(n, code int) []int {
	a := make([]int, n)
	for i := range a {
		a[i] = code >> (n * i) & (1<<n - 1)
	}
	return a
}

// relationsOn yields every relation on n points, each one as new memory.
func relationsOn(n int) iter.Seq[[]int] {
	return func(yield func([]int) bool) {
		for code := range 1 << (n * n) {
			if !yield(relationAt(n, code)) {
				return
			}
		}
	}
}

// allRelations yields every relation on 1 to pointsMax points.
func allRelations() iter.Seq[[]int] {
	return func(yield func([]int) bool) {
		for n := 1; n <= pointsMax; n++ {
			for a := range relationsOn(n) {
				if !yield(a) {
					return
				}
			}
		}
	}
}

// someRelationsOn yields every relation on at most two points, and else a sample in which the one without pairs and the one with all are.
func someRelationsOn(n int) iter.Seq[[]int] {
	codes := 1 << (n * n)
	step := 1
	switch n {
	case 3:
		step = 3
	case 4:
		step = 251
	}
	return func(yield func([]int) bool) {
		for code := 0; code < codes-1; code += step {
			if !yield(relationAt(n, code)) {
				return
			}
		}
		yield(relationAt(n, codes-1))
	}
}

// somePairsOfRelations yields pairs of relations with as many points.
func somePairsOfRelations() iter.Seq2[[]int, []int] {
	return func(yield func([]int, []int) bool) {
		for n := 1; n <= pointsMax; n++ {
			for a := range someRelationsOn(n) {
				for b := range someRelationsOn(n) {
					if !yield(a, b) {
						return
					}
				}
			}
		}
	}
}

// noRelations returns lists that are no relations.
func noRelations() [][]int {
	return [][]int{
		nil,
		{},
		{2},
		{-1},
		{256},
		{1 << 32},
		{math.MinInt},
		{math.MaxInt},
		{0, 4},
		{4, 0},
		{1, -1},
		{1 << 32, 0},
		{8, 0, 0},
		{0, 0, 8},
		{7, -8, 7},
		{0, 0, 0, 16},
		{16, 0, 0, 0},
		{0, -1, 0, 0},
		{0, 0, 0, 0, 0},
		{1, 2, 4, 8, 16},
		{1, 1, 1, 1, 1, 1, 1, 1, 1},
	}
}

// relates reports whether x is related to y, by the bits of the row alone.
func relates(a []int, x, y int) bool {
	return a[x]>>y&1 == 1
}

// relationWhere returns the relation on n points with the pairs for which has holds.
func relationWhere(n int, has func(x, y int) bool) []int {
	a := make([]int, n)
	for x := range n {
		for y := range n {
			if has(x, y) {
				a[x] += 1 << y
			}
		}
	}
	return a
}

func noPairs(n int) []int {
	return make([]int, n)
}

func allPairs(n int) []int {
	return relationWhere(n, func(x, y int) bool { return true })
}

// renamings yields every list of n points that has each one once.
func renamings(n int) iter.Seq[[]int] {
	return func(yield func([]int) bool) {
		for code := range 1 << (2 * n) {
			p := make([]int, n)
			told := 0
			for i := range p {
				p[i] = code >> (2 * i) & 3
				told |= 1 << p[i]
			}
			if told == 1<<n-1 && !yield(p) {
				return
			}
		}
	}
}

// madeBy returns what a function makes that is expected to succeed.
func madeBy(t *testing.T, name string, f func([]int) ([]int, bool), a []int) []int {
	t.Helper()
	got, ok := f(a)
	if !ok {
		t.Fatalf("%s(%v) fails", name, a)
	}
	return got
}

// madeByTwo is madeBy for a function of two relations.
func madeByTwo(t *testing.T, name string, f func([]int, []int) ([]int, bool), a, b []int) []int {
	t.Helper()
	got, ok := f(a, b)
	if !ok {
		t.Fatalf("%s(%v, %v) fails", name, a, b)
	}
	return got
}

func wantList(t *testing.T, what string, got []int, ok bool, want []int) {
	t.Helper()
	if !ok || !slices.Equal(got, want) {
		t.Fatalf("%s returned %v, %v, and not %v, true", what, got, ok, want)
	}
}

func wantNoList(t *testing.T, what string, got []int, ok bool) {
	t.Helper()
	if ok || len(got) != 0 {
		t.Fatalf("%s returned %v, %v, and not the zero value, false", what, got, ok)
	}
}

func wantLists(t *testing.T, what string, got [][]int, ok bool, want [][]int) {
	t.Helper()
	if !ok || !slices.EqualFunc(got, want, slices.Equal[[]int]) {
		t.Fatalf("%s returned %v, %v, and not %v, true", what, got, ok, want)
	}
}

// spoil writes over all memory that a slice holds, its capacity too.
func spoil(a []int) {
	whole := a[:cap(a)]
	for i := range whole {
		whole[i] = -99
	}
}

// roomy returns a copy of a list with room behind it, and the whole of this memory.
func roomy(a []int) ([]int, []int) {
	whole := make([]int, len(a)+3)
	for i := range whole {
		whole[i] = 77
	}
	copy(whole, a)
	return whole[:len(a)], whole
}
