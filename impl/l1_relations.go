package impl

import (
	"iter"
	"math/bits"
)

// PointsMax is the greatest number of points.
const PointsMax = 4

// pointSet is a set of points: the bit with the value 2 to the power of i tells whether i is in it.
type pointSet int

// relation keeps its rows in an array, so that a copy never shares memory with what it was copied from.
// Rows from n on stay empty, so that equal relations are equal as values.
type relation struct {
	n    int
	rows [PointsMax]pointSet
}

func isCount(n int) bool {
	return n >= 1 && n <= PointsMax
}

func isPoint(i int, n int) bool {
	return i >= 0 && i < n
}

func isSet(set int, n int) bool {
	return set >= 0 && set <= int(allPoints(n))
}

func allPoints(n int) pointSet {
	return 1<<n - 1
}

func (s pointSet) has(i int) bool {
	return s&onePoint(i) != 0
}

func (s pointSet) with(i int) pointSet {
	return s | onePoint(i)
}

func (s pointSet) size() int {
	return bits.OnesCount(uint(s))
}

func onePoint(i int) pointSet {
	return 1 << i
}

// relationFrom checks all of a list before any of its numbers is used as a set.
func relationFrom(a []int) (relation, bool) {
	n := len(a)
	if !isCount(n) {
		return relation{}, false
	}
	r := relation{n: n}
	for i, row := range a {
		if !isSet(row, n) {
			return relation{}, false
		}
		r.rows[i] = pointSet(row)
	}
	return r, true
}

func twoRelationsFrom(a []int, b []int) (relation, relation, bool) {
	r, isFirst := relationFrom(a)
	s, isSecond := relationFrom(b)
	if !isFirst || !isSecond || r.n != s.n {
		return relation{}, relation{}, false
	}
	return r, s, true
}

func madeOfOne(a []int, made func(relation) relation) ([]int, bool) {
	r, ok := relationFrom(a)
	if !ok {
		return nil, false
	}
	return made(r).list(), true
}

func madeOfTwo(a []int, b []int, made func(relation, relation) relation) ([]int, bool) {
	r, s, ok := twoRelationsFrom(a, b)
	if !ok {
		return nil, false
	}
	return made(r, s).list(), true
}

func (r relation) list() []int {
	a := make([]int, r.n)
	for i := range a {
		a[i] = int(r.rows[i])
	}
	return a
}

// pairs yields the pairs in the order of lists.
func (r relation) pairs() iter.Seq2[int, int] {
	return func(yield func(int, int) bool) {
		for x := range r.n {
			for y := range r.n {
				if r.rows[x].has(y) && !yield(x, y) {
					return
				}
			}
		}
	}
}

func (r relation) withPair(x int, y int) relation {
	r.rows[x] = r.rows[x].with(y)
	return r
}

func (r relation) either(s relation) relation {
	for i := range r.n {
		r.rows[i] |= s.rows[i]
	}
	return r
}

func (r relation) both(s relation) relation {
	for i := range r.n {
		r.rows[i] &= s.rows[i]
	}
	return r
}

func (r relation) other() relation {
	for i := range r.n {
		r.rows[i] = allPoints(r.n) &^ r.rows[i]
	}
	return r
}

func (r relation) turned() relation {
	t := relation{n: r.n}
	for x, y := range r.pairs() {
		t = t.withPair(y, x)
	}
	return t
}

func (r relation) below(s relation) bool {
	return r.both(s) == r
}

func sameOn(n int) relation {
	r := relation{n: n}
	for i := range n {
		r = r.withPair(i, i)
	}
	return r
}

// hasEachOnce reports whether a list has each of n points once; with n numbers, none told twice is enough.
func hasEachOnce(p []int, n int) bool {
	if len(p) != n {
		return false
	}
	told := pointSet(0)
	for _, i := range p {
		if !isPoint(i, n) || told.has(i) {
			return false
		}
		told = told.with(i)
	}
	return true
}

// RelIn reports whether a list is a relation.
func RelIn(a []int) bool {
	_, ok := relationFrom(a)
	return ok
}

// RelOf returns the relation on n points with some pairs, told in any order and as often as one likes, and true.
func RelOf(n int, pairs [][]int) ([]int, bool) {
	if !isCount(n) {
		return nil, false
	}
	r := relation{n: n}
	for _, p := range pairs {
		if len(p) != 2 || !isPoint(p[0], n) || !isPoint(p[1], n) {
			return nil, false
		}
		r = r.withPair(p[0], p[1])
	}
	return r.list(), true
}

// RelPairs returns all pairs of a relation, in the order of lists, and true.
func RelPairs(a []int) ([][]int, bool) {
	r, ok := relationFrom(a)
	if !ok {
		return nil, false
	}
	list := [][]int{}
	for x, y := range r.pairs() {
		list = append(list, []int{x, y})
	}
	return list, true
}

// RelEither returns the relation with the pairs of one of two relations, or both, and true.
func RelEither(a []int, b []int) ([]int, bool) {
	return madeOfTwo(a, b, relation.either)
}

// RelBoth returns the relation with the pairs that both have, and true.
func RelBoth(a []int, b []int) ([]int, bool) {
	return madeOfTwo(a, b, relation.both)
}

// RelOther returns the relation with just the pairs that a relation has not, and true.
func RelOther(a []int) ([]int, bool) {
	return madeOfOne(a, relation.other)
}

// RelTurned returns the relation in which a point is related to those that are related to it, and true.
func RelTurned(a []int) ([]int, bool) {
	return madeOfOne(a, relation.turned)
}

// RelBelow reports whether the second one of two relations has all pairs of the first one.
func RelBelow(a []int, b []int) bool {
	r, s, ok := twoRelationsFrom(a, b)
	return ok && r.below(s)
}

// RelSame returns the relation in which each one of n points is related to itself alone, and true.
func RelSame(n int) ([]int, bool) {
	if !isCount(n) {
		return nil, false
	}
	return sameOn(n).list(), true
}

// RelNamed returns the relation with the point i called as the number at the place i of a list tells, this having each point once, and true.
func RelNamed(a []int, p []int) ([]int, bool) {
	r, ok := relationFrom(a)
	if !ok || !hasEachOnce(p, r.n) {
		return nil, false
	}
	named := relation{n: r.n}
	for x, y := range r.pairs() {
		named = named.withPair(p[x], p[y])
	}
	return named.list(), true
}

// RelEnds returns the set of points that are related to some point, and that of those to which some is, and true.
func RelEnds(a []int) (int, int, bool) {
	r, ok := relationFrom(a)
	if !ok {
		return 0, 0, false
	}
	starts, targets := pointSet(0), pointSet(0)
	for x, y := range r.pairs() {
		starts, targets = starts.with(x), targets.with(y)
	}
	return int(starts), int(targets), true
}

// RelSize returns the number of pairs, and true.
func RelSize(a []int) (int, bool) {
	r, ok := relationFrom(a)
	if !ok {
		return 0, false
	}
	size := 0
	for i := range r.n {
		size += r.rows[i].size()
	}
	return size, true
}
