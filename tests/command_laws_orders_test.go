package tests

import (
	"slices"
	"testing"

	"loop.example/fewrelations/impl"
)

func TestPromise31And32And33ThroughWords(t *testing.T) {
	for n := 1; n <= pointsMax; n++ {
		for _, e := range equivalencesOn(n) {
			classes := listIn(t, answerOf(t, e, "classes"))
			made, ok := impl.EquOf(n, classes)
			wantList(t, "EquOf of the classes", made, ok, e)
			wantShown(t, "its own kernel", shownBehind(t, e, "kernel"), e)
			told := 0
			for _, class := range classes {
				if told&class != 0 {
					t.Fatalf("the classes of %v are %v", e, classes)
				}
				told |= class
			}
			if told != allStates(n) {
				t.Fatalf("the classes of %v are %v", e, classes)
			}
		}
	}
}

func TestPromise35ThroughWords(t *testing.T) {
	for e, f := range pairsOfEquivalences() {
		join := madeByTwo(t, "EquJoin", impl.EquJoin, e, f)
		wantShown(t, "least with rst", shownBehind(t, madeByTwo(t, "RelEither", impl.RelEither, e, f), "least rst"), join)
	}
}

func TestPromise36ThroughWords(t *testing.T) {
	for a := range manyRelations() {
		kernel := shownBehind(t, a, "kernel")
		if got := answerOf(t, kernel, "classes"); got == "no" {
			t.Fatalf("the kernel of %v, %v, has no classes", a, kernel)
		}
		wantShown(t, "comp of the kernel and it", shownBehind(t, kernel, lineWith("comp", a)), a)
	}
}

func TestPromise39ThroughWords(t *testing.T) {
	for n := 1; n <= pointsMax; n++ {
		for _, e := range equivalencesOn(n) {
			for a := range someRelationsOn(n) {
				if impl.EquKept(e, a) && !impl.EquKept(e, shownBehind(t, a, lineWith("comp", a))) {
					t.Fatalf("%v is kept by %v, and not by comp of it and itself", e, a)
				}
			}
		}
	}
}

func TestPromise40And41ThroughWords(t *testing.T) {
	for o := range allOrders() {
		ways := numberIn(t, answerOf(t, o, "ways"))
		if turned := numberIn(t, answerOf(t, o, "turned", "ways")); turned != ways {
			t.Fatalf("%v has %d ways, and %d turned", o, ways, turned)
		}
		covers := madeBy(t, "OrderCovers", impl.OrderCovers, o)
		wantShown(t, "the star of what covers", shownBehind(t, covers, "star"), o)
	}
}

func TestPromise43And44ThroughWords(t *testing.T) {
	for o := range allOrders() {
		for set := range 1 << len(o) {
			answer := answerOf(t, o, lineWithNumber("bound", set))
			if answer == "no" {
				continue
			}
			bound := numberIn(t, answer)
			if bound >= len(o) || !isBoundOf(o, set, bound) {
				t.Fatalf("the bound of %d in %v is %d", set, o, bound)
			}
			if again := answerOf(t, o, lineWithNumber("bound", set|1<<bound)); again != answer {
				t.Fatalf("the bound of %d in %v is %s, and with it %s", set, o, answer, again)
			}
		}
		if impl.OrderLattice(o) {
			first := madeBy(t, "OrderFirst", impl.OrderFirst, o)
			if bound := numberIn(t, answerOf(t, o, "bound 0")); bound != first[0] {
				t.Fatalf("the bound of no point in %v is %d", o, bound)
			}
			if turned := shownBehind(t, o, "turned"); !impl.OrderLattice(turned) {
				t.Fatalf("%v is no lattice, and was one", turned)
			}
		}
	}
}

func TestPromise45And47ThroughWords(t *testing.T) {
	for o := range allOrders() {
		n := len(o)
		ways, sizes := numberIn(t, answerOf(t, o, "ways")), listIn(t, answerOf(t, o, "sizes"))
		isSame := slices.Equal(o, shownBehind(t, o, "power 0"))
		isChain := hasLetters(answerOf(t, o, "kinds"), "c")
		if ways < 1 || ways > factorial(n) || (ways == factorial(n)) != isSame || (ways == 1) != isChain {
			t.Fatalf("%v has %d ways", o, ways)
		}
		if len(sizes) != 2 || sizes[0]*sizes[1] < n || sizes[0]+sizes[1] > n+1 {
			t.Fatalf("the sizes of %v are %v", o, sizes)
		}
	}
}
