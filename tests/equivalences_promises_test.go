package tests

import (
	"slices"
	"testing"

	"loop.example/fewrelations/impl"
)

func kindCountOf(t *testing.T, n int, kinds string) int {
	t.Helper()
	count, ok := impl.KindCount(n, kinds)
	if !ok {
		t.Fatalf("KindCount(%d, %q) fails", n, kinds)
	}
	return count
}

func equCountOf(t *testing.T, n int) int {
	t.Helper()
	count, ok := impl.EquCount(n)
	if !ok {
		t.Fatalf("EquCount(%d) fails", n)
	}
	return count
}

// binomial returns the number of ways to choose k of n things: the last one is chosen, or it is not.
func binomial(n, k int) int {
	if k == 0 || k == n {
		return 1
	}
	return binomial(n-1, k-1) + binomial(n-1, k)
}

func TestPromise30CountsOfKinds(t *testing.T) {
	for n := 1; n <= 3; n++ {
		for kinds := range partsOf(kindLetters) {
			if count := kindCountOf(t, n, kinds); count < 0 || count > 1<<(n*n) {
				t.Fatalf("KindCount(%d, %q) is %d", n, kinds, count)
			}
		}
		if kindCountOf(t, n, "rst") != equCountOf(t, n) {
			t.Errorf("there are %d relations of rst on %d points, and %d equivalences", kindCountOf(t, n, "rst"), n, equCountOf(t, n))
		}
	}
	for n, want := range []struct{ fd, rat, fdjo int }{1: {1, 1, 1}, 2: {4, 3, 2}, 3: {27, 19, 6}} {
		if n == 0 {
			continue
		}
		wantCount(t, n, "fd", want.fd)
		wantCount(t, n, "rat", want.rat)
		wantCount(t, n, "fdjo", want.fdjo)
	}
}

func TestPromise31EquivalencesAreOfTheirClassesAndTheirOwnKernels(t *testing.T) {
	held := 0
	for a := range allRelations() {
		if !impl.EquIn(a) {
			continue
		}
		held++
		back, ok := impl.EquOf(len(a), madeBy(t, "EquClasses", impl.EquClasses, a))
		wantList(t, "EquOf of EquClasses", back, ok, a)
		wantKernel(t, a, a)
	}
	if held != 1+2+5+15 {
		t.Fatalf("EquIn held %d times", held)
	}
}

func TestPromise32ClassesHaveNoCommonPointAndAllPoints(t *testing.T) {
	made := 0
	for a := range allRelations() {
		classes, ok := impl.EquClasses(a)
		if !ok {
			continue
		}
		made++
		all := 0
		for _, class := range classes {
			if all&class != 0 {
				t.Fatalf("EquClasses(%v) is %v", a, classes)
			}
			all |= class
		}
		if all != 1<<len(a)-1 {
			t.Fatalf("EquClasses(%v) is %v", a, classes)
		}
	}
	if made != 1+2+5+15 {
		t.Fatalf("EquClasses succeeded %d times", made)
	}
}

func TestPromise33PartitionsLeadToEquivalencesAndBack(t *testing.T) {
	for n := 1; n <= pointsMax; n++ {
		made := 0
		for length := range n + 1 {
			for classes := range listsOf(length, 0, 1<<n-1) {
				e, ok := impl.EquOf(n, classes)
				if !ok {
					continue
				}
				made++
				if len(e) != n || !impl.EquIn(e) {
					t.Fatalf("EquOf(%d, %v) is %v", n, classes, e)
				}
				wantClasses(t, e, classes)
			}
		}
		if made != equCountOf(t, n) {
			t.Fatalf("EquOf succeeded %d times for %d points", made, n)
		}
	}
}

func TestPromise34MeetsAreBelowBothAndJoinBack(t *testing.T) {
	for e, f := range pairsOfEquivalences() {
		meet := madeByTwo(t, "EquMeet", impl.EquMeet, e, f)
		if !impl.EquIn(meet) || !impl.RelBelow(meet, e) || !impl.RelBelow(meet, f) {
			t.Fatalf("EquMeet(%v, %v) is %v", e, f, meet)
		}
		back, ok := impl.EquJoin(meet, e)
		wantList(t, "EquJoin of EquMeet and the first one", back, ok, e)
	}
}

func TestPromise35JoinsAreAboveBothMeetBackAndAreLeast(t *testing.T) {
	for e, f := range pairsOfEquivalences() {
		join := madeByTwo(t, "EquJoin", impl.EquJoin, e, f)
		if !impl.EquIn(join) || !impl.RelBelow(e, join) || !impl.RelBelow(f, join) {
			t.Fatalf("EquJoin(%v, %v) is %v", e, f, join)
		}
		back, ok := impl.EquMeet(join, e)
		wantList(t, "EquMeet of EquJoin and the first one", back, ok, e)
		least, ok := impl.KindLeast(madeByTwo(t, "RelEither", impl.RelEither, e, f), "rst")
		wantList(t, "KindLeast of rst of RelEither", least, ok, join)
	}
}

func TestPromise36KernelsAreEquivalencesAndComposeBack(t *testing.T) {
	for a := range allRelations() {
		kernel := madeBy(t, "EquKernel", impl.EquKernel, a)
		if !impl.EquIn(kernel) {
			t.Fatalf("EquKernel(%v) is %v", a, kernel)
		}
		back, ok := impl.CompOf(kernel, a)
		wantList(t, "CompOf of EquKernel and the relation", back, ok, a)
	}
}

func TestPromise37QuotientsHaveAsManyPointsAsClasses(t *testing.T) {
	for a, e := range relationsAndEquivalences() {
		quotient := madeByTwo(t, "EquQuotient", impl.EquQuotient, a, e)
		if !impl.RelIn(quotient) || len(quotient) != len(differentRows(e)) {
			t.Fatalf("EquQuotient(%v, %v) is %v", a, e, quotient)
		}
	}
	for n := 1; n <= pointsMax; n++ {
		for _, e := range equivalencesOn(n) {
			classes := madeBy(t, "EquClasses", impl.EquClasses, e)
			quotient := madeByTwo(t, "EquQuotient", impl.EquQuotient, e, e)
			if len(quotient) != len(classes) {
				t.Fatalf("EquQuotient(%v, %v) is %v, the classes are %v", e, e, quotient, classes)
			}
		}
	}
	for a := range allRelations() {
		same, ok := impl.RelSame(len(a))
		if !ok {
			t.Fatalf("RelSame(%d) fails", len(a))
		}
		wantQuotient(t, a, same, a)
	}
}

func TestPromise38CountsAreSumsOfChoices(t *testing.T) {
	for n := 1; n <= pointsMax; n++ {
		sum := 0
		for k := range n {
			count := 1
			if k > 0 {
				count = equCountOf(t, k)
			}
			sum += binomial(n-1, k) * count
		}
		if got := equCountOf(t, n); got != sum {
			t.Errorf("EquCount(%d) is %d, and the sum %d", n, got, sum)
		}
	}
}

func TestPromise39KeptByTheCompositionAndBySame(t *testing.T) {
	held := 0
	for a, e := range relationsAndEquivalences() {
		if !impl.EquKept(e, a) {
			continue
		}
		held++
		if twice := madeByTwo(t, "CompOf", impl.CompOf, a, a); !impl.EquKept(e, twice) {
			t.Fatalf("EquKept(%v, %v) holds, and not for %v", e, a, twice)
		}
	}
	if held == 0 {
		t.Fatal("EquKept never held")
	}
	for n := 1; n <= pointsMax; n++ {
		same, ok := impl.RelSame(n)
		if !ok || !slices.Equal(same, samePoints(n)) {
			t.Fatalf("RelSame(%d) is %v, %v", n, same, ok)
		}
		for _, e := range equivalencesOn(n) {
			wantKept(t, e, same, true)
		}
	}
}
