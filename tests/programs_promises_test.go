package tests

import (
	"testing"

	"loop.example/fewrelations/impl"
)

func ifOf(t *testing.T, test int, a, b []int) []int {
	t.Helper()
	got, ok := impl.ProgIf(test, a, b)
	if !ok {
		t.Fatalf("ProgIf(%d, %v, %v) fails", test, a, b)
	}
	return got
}

func whileOf(t *testing.T, test int, a []int) []int {
	t.Helper()
	got, ok := impl.ProgWhile(test, a)
	if !ok {
		t.Fatalf("ProgWhile(%d, %v) fails", test, a)
	}
	return got
}

func TestPromise67AfterIsBeforeTurnedAndThereATriple(t *testing.T) {
	for a := range allRelations() {
		turned := madeBy(t, "RelTurned", impl.RelTurned, a)
		for set := range 1 << len(a) {
			after := setMadeBy(t, "ProgAfter", impl.ProgAfter, a, set)
			wantSet(t, "ProgBefore turned", impl.ProgBefore, turned, set, after)
			wantTriple(t, set, a, after, true)
		}
	}
}

func TestPromise68BeforeHasTheStatesThatDoNotSurelyLeadToOthers(t *testing.T) {
	for a, set := range programsAndSets() {
		all := allStates(len(a))
		surely := setMadeBy(t, "ProgSurely", impl.ProgSurely, a, all-set)
		wantSet(t, "ProgBefore", impl.ProgBefore, a, set, all-surely)
	}
}

// A state outside of the set is tried alone, too: if a triple held for it, one would for it and the set together.
func TestPromise69SurelyIsTheGreatestFirstSetOfATriple(t *testing.T) {
	for a, set := range programsAndSets() {
		surely := setMadeBy(t, "ProgSurely", impl.ProgSurely, a, set)
		wantTriple(t, surely, a, set, true)
		for x := range a {
			if !isInSet(surely, x) {
				wantTriple(t, surely|1<<x, a, set, false)
				wantTriple(t, 1<<x, a, set, false)
			}
		}
	}
}

func TestPromise70TriplesLeadIntoTheSecondSet(t *testing.T) {
	held := 0
	for a, pre := range programsAndSets() {
		after := setMadeBy(t, "ProgAfter", impl.ProgAfter, a, pre)
		for post := range 1 << len(a) {
			if !impl.ProgTriple(pre, a, post) {
				continue
			}
			held++
			surely := setMadeBy(t, "ProgSurely", impl.ProgSurely, a, post)
			if !isPart(after, post) || !isPart(pre, surely) {
				t.Fatalf("ProgTriple(%d, %v, %d) holds, and ProgAfter is %d, ProgSurely %d", pre, a, post, after, surely)
			}
		}
	}
	if held == 0 {
		t.Fatal("ProgTriple never held")
	}
}

func TestPromise71BranchesAreBelowBothAndTheSameExchanged(t *testing.T) {
	for programs, test := range twoProgramsAndTests() {
		a, b := programs[0], programs[1]
		got := ifOf(t, test, a, b)
		either := madeByTwo(t, "RelEither", impl.RelEither, a, b)
		if !impl.RelBelow(got, either) {
			t.Fatalf("ProgIf(%d, %v, %v) is %v", test, a, b, got)
		}
		wantIf(t, allStates(len(a))-test, b, a, got)
	}
}

func TestPromise72GoingOnIsAStepAndGoingOn(t *testing.T) {
	for a, test := range programsAndSets() {
		loop := whileOf(t, test, a)
		goesOn := madeByTwo(t, "CompOf", impl.CompOf, a, loop)
		same, ok := impl.RelSame(len(a))
		wantList(t, "RelSame", same, ok, samePoints(len(a)))
		wantIf(t, test, goesOn, same, loop)
	}
}

func TestPromise73LoopsLeadOutOfTheTestAndStayInWhatIsKept(t *testing.T) {
	for a := range allRelations() {
		all := allStates(len(a))
		largest := setMadeBy(t, "ProgLargest", impl.ProgLargest, a, all-1)
		for test := range 1 << len(a) {
			loop := whileOf(t, test, a)
			wantTriple(t, all, loop, all-test, true)
			wantTriple(t, largest, loop, largest, true)
		}
	}
}

func TestPromise74EndsHasTheStatesAllOfWhoseStepsLeadToIt(t *testing.T) {
	for a, test := range programsAndSets() {
		ends := setMadeBy(t, "ProgEnds", endsOn, a, test)
		for x := range a {
			isLed := !leadsOutside(a, 1<<x, ends)
			if isInSet(ends, x) != (!isInSet(test, x) || isLed) {
				t.Fatalf("ProgEnds(%d, %v) is %d, and of the state %d this is not told", test, a, ends, x)
			}
		}
	}
}

func TestPromise75KeptSetsHaveTheSetAreKeptAndTheirOwn(t *testing.T) {
	for a, set := range programsAndSets() {
		kept := setMadeBy(t, "ProgKept", impl.ProgKept, a, set)
		if !isPart(set, kept) {
			t.Fatalf("ProgKept(%v, %d) is %d", a, set, kept)
		}
		wantTriple(t, kept, a, kept, true)
		wantSet(t, "ProgKept", impl.ProgKept, a, kept, kept)
	}
}

func TestPromise76LargestPartsAreKeptAndLeaveWhatOthersKeepTurned(t *testing.T) {
	for a := range allRelations() {
		all := allStates(len(a))
		turned := madeBy(t, "RelTurned", impl.RelTurned, a)
		for set := range all + 1 {
			largest := setMadeBy(t, "ProgLargest", impl.ProgLargest, a, set)
			if !isPart(largest, set) {
				t.Fatalf("ProgLargest(%v, %d) is %d", a, set, largest)
			}
			wantTriple(t, largest, a, largest, true)
			wantSet(t, "ProgKept turned", impl.ProgKept, turned, all-set, all-largest)
		}
	}
}
