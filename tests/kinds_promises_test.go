package tests

import (
	"slices"
	"testing"

	"loop.example/fewrelations/impl"
)

func kindAllOf(t *testing.T, a []int) string {
	t.Helper()
	kinds, ok := impl.KindAll(a)
	if !ok {
		t.Fatalf("KindAll(%v) fails", a)
	}
	return kinds
}

func TestPromise22SameHasItsKindsAndNoOther(t *testing.T) {
	for n, want := range []string{1: "rsatcfdjo", 2: "rsatfdjo", 3: "rsatfdjo", 4: "rsatfdjo"} {
		same, ok := impl.RelSame(n)
		if n == 0 {
			wantNoList(t, "RelSame(0)", same, ok)
			continue
		}
		if !ok || sizeOf(t, same) != n {
			t.Fatalf("RelSame(%d) is %v, %v", n, same, ok)
		}
		for i := range len(kindLetters) {
			kind := kindLetters[i : i+1]
			if impl.KindIn(same, kind) != hasLetters(want, kind) {
				t.Errorf("KindIn(%v, %q) is not %v", same, kind, hasLetters(want, kind))
			}
		}
		if got := kindAllOf(t, same); got != want {
			t.Errorf("KindAll(%v) is %q", same, got)
		}
	}
}

func TestPromise23KindInHoldsForEachLetterAndTurned(t *testing.T) {
	held := 0
	for n := 1; n <= pointsMax; n++ {
		for a := range someRelationsOn(n) {
			for kinds := range partsOf(kindLetters) {
				if !impl.KindIn(a, kinds) {
					continue
				}
				held++
				for i := range len(kinds) {
					if !impl.KindIn(a, kinds[i:i+1]) {
						t.Fatalf("KindIn(%v, %q) holds, and not for %q", a, kinds, kinds[i:i+1])
					}
				}
			}
		}
	}
	if held == 0 {
		t.Fatal("KindIn never held")
	}
	for a := range allRelations() {
		turned := madeBy(t, "RelTurned", impl.RelTurned, a)
		if impl.KindIn(a, "t") != impl.KindIn(turned, "t") {
			t.Fatalf("just one of %v and %v is of the kind t", a, turned)
		}
	}
}

func TestPromise24KindAllHoldsAndGoesAlongWithTurned(t *testing.T) {
	for a := range allRelations() {
		kinds := kindAllOf(t, a)
		if !impl.KindIn(a, kinds) {
			t.Fatalf("KindIn(%v, %q) does not hold for KindAll", a, kinds)
		}
		turned := kindAllOf(t, madeBy(t, "RelTurned", impl.RelTurned, a))
		for _, c := range []struct{ of, ofTurned string }{{"f", "j"}, {"d", "o"}, {"j", "f"}, {"o", "d"}} {
			if hasLetters(kinds, c.of) != hasLetters(turned, c.ofTurned) {
				t.Fatalf("%v is of the kinds %q, and turned of %q", a, kinds, turned)
			}
		}
	}
}

func TestPromise25LeastIsAboveOfTheKindsAndItsOwn(t *testing.T) {
	for a := range allRelations() {
		for kinds := range partsOf("rst") {
			least, ok := impl.KindLeast(a, kinds)
			if !ok || !impl.RelBelow(a, least) || !impl.KindIn(least, kinds) {
				t.Fatalf("KindLeast(%v, %q) is %v, %v: above it %v, of the kinds %v", a, kinds, least, ok, impl.RelBelow(a, least), impl.KindIn(least, kinds))
			}
			again, ok := impl.KindLeast(least, kinds)
			wantList(t, "KindLeast of KindLeast", again, ok, least)
		}
	}
}

func TestPromise26MostIsBelowOfTheKindsAndItsOwn(t *testing.T) {
	for a := range allRelations() {
		for kinds := range partsOf("is") {
			most, ok := impl.KindMost(a, kinds)
			if !ok || !impl.RelBelow(most, a) || !impl.KindIn(most, kinds) {
				t.Fatalf("KindMost(%v, %q) is %v, %v: below it %v, of the kinds %v", a, kinds, most, ok, impl.RelBelow(most, a), impl.KindIn(most, kinds))
			}
			again, ok := impl.KindMost(most, kinds)
			wantList(t, "KindMost of KindMost", again, ok, most)
		}
	}
}

func TestPromise27MapsLeadBackToTheRelation(t *testing.T) {
	maps := 0
	for a := range allRelations() {
		p, ok := impl.KindMap(a)
		if !ok {
			continue
		}
		maps++
		back, ok := impl.KindOfMap(p)
		wantList(t, "KindOfMap of KindMap", back, ok, a)
	}
	if maps != 1+4+27+256 {
		t.Fatalf("KindMap succeeded %d times", maps)
	}
}

func TestPromise28RelationsOfMapsLeadBackToTheList(t *testing.T) {
	for n := 1; n <= pointsMax; n++ {
		for p := range mapsOf(n) {
			a, ok := impl.KindOfMap(p)
			if !ok || !impl.KindIn(a, "fd") {
				t.Fatalf("KindOfMap(%v) is %v, %v, of the kinds %q", p, a, ok, kindAllOf(t, a))
			}
			back, ok := impl.KindMap(a)
			wantList(t, "KindMap of KindOfMap", back, ok, p)
		}
	}
}

func TestPromise29SplitIsOfItsKindsAndTogetherMostOfI(t *testing.T) {
	for a := range allRelations() {
		turning, oneWay, ok := impl.KindSplit(a)
		if !ok || !impl.KindIn(turning, "is") || !impl.KindIn(oneWay, "ia") {
			t.Fatalf("KindSplit(%v) is %v, %v, %v", a, turning, oneWay, ok)
		}
		most, ok := impl.KindMost(a, "i")
		wantList(t, "KindMost of i", most, ok, madeByTwo(t, "RelEither", impl.RelEither, turning, oneWay))
		if both := madeByTwo(t, "RelBoth", impl.RelBoth, turning, oneWay); !slices.Equal(both, noPairs(len(a))) {
			t.Fatalf("KindSplit(%v): both have %v", a, both)
		}
	}
}
