package tests

import "slices"

// powerMost is the greatest power that CompPower makes.
const powerMost = 100

// composed is the composition by its definition: some point is between x and z.
func composed(a, b []int) []int {
	return relationWhere(len(a), func(x, z int) bool {
		for y := range a {
			if relates(a, x, y) && relates(b, y, z) {
				return true
			}
		}
		return false
	})
}

func isBelow(a, b []int) bool {
	for x := range a {
		for y := range a {
			if relates(a, x, y) && !relates(b, x, y) {
				return false
			}
		}
	}
	return true
}

func samePoints(n int) []int {
	return relationWhere(n, func(x, y int) bool { return x == y })
}

func turnedOf(a []int) []int {
	return relationWhere(len(a), func(x, y int) bool { return relates(a, y, x) })
}

// leftOf has each pair that, alone, keeps the composition of a and it below b.
func leftOf(a, b []int) []int {
	n := len(a)
	return relationWhere(n, func(x, y int) bool {
		one := noPairs(n)
		one[x] = 1 << y
		return isBelow(composed(a, one), b)
	})
}

// rightOf has each pair that, alone, keeps the composition of it and a below b.
func rightOf(a, b []int) []int {
	n := len(a)
	return relationWhere(n, func(x, y int) bool {
		one := noPairs(n)
		one[x] = 1 << y
		return isBelow(composed(one, a), b)
	})
}

// powersUpTo returns the powers 0 to k, one composition after the other.
func powersUpTo(a []int, k int) [][]int {
	powers := [][]int{samePoints(len(a))}
	for range k {
		powers = append(powers, composed(powers[len(powers)-1], a))
	}
	return powers
}

// reachOf puts in each point as one that may be between, one after the other.
func reachOf(a []int) []int {
	reach := slices.Clone(a)
	for y := range reach {
		for x := range reach {
			if relates(reach, x, y) {
				reach[x] |= reach[y]
			}
		}
	}
	return reach
}

// farOf goes from x to all next points at once until y is among them; it is -1 if it never is.
func farOf(a []int, x, y int) int {
	seen := 1 << x
	for k := range len(a) {
		if seen>>y&1 == 1 {
			return k
		}
		next := seen
		for z := range a {
			if seen>>z&1 == 1 {
				next |= a[z]
			}
		}
		seen = next
	}
	return -1
}

// indexOf looks for the first two powers that are the same.
func indexOf(a []int) (int, int) {
	powers := [][]int{samePoints(len(a))}
	for {
		next := composed(powers[len(powers)-1], a)
		if k := slices.IndexFunc(powers, func(p []int) bool { return slices.Equal(p, next) }); k >= 0 {
			return k, len(powers) - k
		}
		powers = append(powers, next)
	}
}

// outOfPowers returns numbers that are no power that CompPower makes.
func outOfPowers() []int {
	return []int{-1, -2, -100, 101, 102, 1000, 1 << 32, 1<<32 + 1, -1 << 32, -1 << 63, 1<<63 - 1}
}
