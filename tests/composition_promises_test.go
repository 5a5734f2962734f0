package tests

import (
	"slices"
	"testing"

	"loop.example/fewrelations/impl"
)

func powerOf(t *testing.T, a []int, k int) []int {
	t.Helper()
	power, ok := impl.CompPower(a, k)
	if !ok {
		t.Fatalf("CompPower(%v, %d) fails", a, k)
	}
	return power
}

func TestPromise11RelNamedGoesAlongWithCompOf(t *testing.T) {
	for n := 1; n <= pointsMax; n++ {
		for p := range renamings(n) {
			named := func(a []int) ([]int, bool) { return impl.RelNamed(a, p) }
			for a := range someRelationsOn(n) {
				b := madeBy(t, "RelNamed", named, a)
				if sizeOf(t, b) != sizeOf(t, a) {
					t.Fatalf("RelNamed(%v, %v) has %d pairs", a, p, sizeOf(t, b))
				}
				left := madeByTwo(t, "CompOf", impl.CompOf, b, b)
				right := madeBy(t, "RelNamed", named, madeByTwo(t, "CompOf", impl.CompOf, a, a))
				if !slices.Equal(left, right) {
					t.Fatalf("for %v named by %v: composed and named %v, named and composed %v", a, p, right, left)
				}
			}
		}
	}
}

func TestPromise12CompositionTurnedIsTheOtherWayRound(t *testing.T) {
	for a, b := range somePairsOfRelations() {
		left := madeBy(t, "RelTurned", impl.RelTurned, madeByTwo(t, "CompOf", impl.CompOf, a, b))
		turnedA := madeBy(t, "RelTurned", impl.RelTurned, a)
		turnedB := madeBy(t, "RelTurned", impl.RelTurned, b)
		if right := madeByTwo(t, "CompOf", impl.CompOf, turnedB, turnedA); !slices.Equal(left, right) {
			t.Fatalf("for %v and %v: the composition turned is %v, that of both turned %v", a, b, left, right)
		}
	}
}

func TestPromise13CompositionWithOthersIsBelow(t *testing.T) {
	for a, b := range somePairsOfRelations() {
		turned := madeBy(t, "RelTurned", impl.RelTurned, a)
		other := madeBy(t, "RelOther", impl.RelOther, madeByTwo(t, "CompOf", impl.CompOf, a, b))
		made := madeByTwo(t, "CompOf", impl.CompOf, turned, other)
		if !impl.RelBelow(made, madeBy(t, "RelOther", impl.RelOther, b)) {
			t.Fatalf("for %v and %v: %v is not below the other one of the second", a, b, made)
		}
	}
}

func TestPromise14EachPowerIsComposedOfTheOneAhead(t *testing.T) {
	for n := 1; n <= pointsMax; n++ {
		for a := range someRelationsOn(n) {
			if zero := powerOf(t, a, 0); !slices.Equal(zero, samePoints(n)) {
				t.Fatalf("CompPower(%v, 0) is %v", a, zero)
			}
			for k := range powerMost {
				next := powerOf(t, a, k+1)
				if made := madeByTwo(t, "CompOf", impl.CompOf, powerOf(t, a, k), a); !slices.Equal(made, next) {
					t.Fatalf("CompPower(%v, %d) is %v, and one more composition is %v", a, k+1, next, made)
				}
			}
		}
	}
}

func TestPromise15LeftResidualComposesBelow(t *testing.T) {
	for a, b := range somePairsOfRelations() {
		left := madeByTwo(t, "CompLeft", impl.CompLeft, a, b)
		if !impl.RelBelow(madeByTwo(t, "CompOf", impl.CompOf, a, left), b) {
			t.Fatalf("%v and CompLeft of it and %v, %v, do not compose below", a, b, left)
		}
		made := madeByTwo(t, "CompOf", impl.CompOf, a, b)
		if above := madeByTwo(t, "CompLeft", impl.CompLeft, a, made); !impl.RelBelow(b, above) {
			t.Fatalf("%v is not below CompLeft of %v and of the composition of both, %v", b, a, above)
		}
	}
}

func TestPromise16RightResidualComposesBelowAndIsTheLeftOneTurned(t *testing.T) {
	for a, b := range somePairsOfRelations() {
		right := madeByTwo(t, "CompRight", impl.CompRight, a, b)
		if !impl.RelBelow(madeByTwo(t, "CompOf", impl.CompOf, right, a), b) {
			t.Fatalf("CompRight of %v and %v, %v, and the first one do not compose below", a, b, right)
		}
		turnedA := madeBy(t, "RelTurned", impl.RelTurned, a)
		turnedB := madeBy(t, "RelTurned", impl.RelTurned, b)
		left := madeByTwo(t, "CompLeft", impl.CompLeft, turnedA, turnedB)
		if turned := madeBy(t, "RelTurned", impl.RelTurned, left); !slices.Equal(turned, right) {
			t.Fatalf("CompRight of %v and %v is %v, CompLeft of both turned, turned, is %v", a, b, right, turned)
		}
	}
}

func TestPromise17SolutionIsOneAndTheLeftResidual(t *testing.T) {
	solved, unsolved := 0, 0
	for a, b := range somePairsOfRelations() {
		for _, c := range [][]int{b, composed(a, b)} {
			x, ok := impl.CompSolve(a, c)
			if !ok {
				unsolved++
				continue
			}
			solved++
			if made := madeByTwo(t, "CompOf", impl.CompOf, a, x); !slices.Equal(made, c) {
				t.Fatalf("CompSolve(%v, %v) is %v, which composes to %v", a, c, x, made)
			}
			if left := madeByTwo(t, "CompLeft", impl.CompLeft, a, c); !slices.Equal(x, left) {
				t.Fatalf("CompSolve(%v, %v) is %v, and CompLeft %v", a, c, x, left)
			}
		}
	}
	if solved == 0 || unsolved == 0 {
		t.Fatalf("CompSolve succeeded %d times and failed %d times", solved, unsolved)
	}
}

func TestPromise18ReachIsAboveAndItsOwn(t *testing.T) {
	for a := range allRelations() {
		reach := madeBy(t, "CompReach", impl.CompReach, a)
		if !impl.RelBelow(a, reach) {
			t.Fatalf("%v is not below CompReach of it, %v", a, reach)
		}
		if made := madeByTwo(t, "CompOf", impl.CompOf, reach, reach); !impl.RelBelow(made, reach) {
			t.Fatalf("CompReach(%v), %v, is not above the composition of it and itself, %v", a, reach, made)
		}
		if again := madeBy(t, "CompReach", impl.CompReach, reach); !slices.Equal(again, reach) {
			t.Fatalf("CompReach of CompReach(%v), %v, is %v", a, reach, again)
		}
	}
}

func TestPromise19StarIsThePowerOfThePoints(t *testing.T) {
	for a := range allRelations() {
		n := len(a)
		star := madeBy(t, "CompStar", impl.CompStar, a)
		with := madeByTwo(t, "RelEither", impl.RelEither, a, samePoints(n))
		if power := powerOf(t, with, n); !slices.Equal(star, power) {
			t.Fatalf("CompStar(%v) is %v, and CompPower(%v, %d) is %v", a, star, with, n, power)
		}
	}
}

func TestPromise20DistanceIsAPowerLessThanThePoints(t *testing.T) {
	for a := range allRelations() {
		for x := range a {
			for y := range a {
				k, ok := impl.CompFar(a, x, y)
				if !ok {
					if x == y {
						t.Fatalf("CompFar(%v, %d, %d) fails", a, x, y)
					}
					continue
				}
				if !relates(powerOf(t, a, k), x, y) {
					t.Fatalf("CompFar(%v, %d, %d) is %d, and this power does not relate them", a, x, y, k)
				}
				if k < 0 || k >= len(a) || (k == 0) != (x == y) {
					t.Fatalf("CompFar(%v, %d, %d) is %d", a, x, y, k)
				}
			}
		}
	}
}

func TestPromise21PowersOfTheIndexAreTheSame(t *testing.T) {
	for a := range allRelations() {
		k, m, ok := impl.CompIndex(a)
		if !ok || k < 0 || m < 1 || k+m > powerMost {
			t.Fatalf("CompIndex(%v) is %d, %d, %v", a, k, m, ok)
		}
		if first, second := powerOf(t, a, k), powerOf(t, a, k+m); !slices.Equal(first, second) {
			t.Fatalf("CompIndex(%v) is %d, %d, and the powers %d and %d are %v and %v", a, k, m, k, k+m, first, second)
		}
	}
}
