package tests

import (
	"slices"
	"testing"

	"loop.example/fewrelations/impl"
)

func wantSet(t *testing.T, name string, f func([]int, int) (int, bool), a []int, set, want int) {
	t.Helper()
	if got, ok := f(a, set); !ok || got != want {
		t.Fatalf("%s of %v and %d returned %d, %v, and not %d, true", name, a, set, got, ok, want)
	}
}

func wantTriple(t *testing.T, pre int, a []int, post int, want bool) {
	t.Helper()
	if impl.ProgTriple(pre, a, post) != want {
		t.Fatalf("ProgTriple(%d, %v, %d) is not %v", pre, a, post, want)
	}
}

func wantIf(t *testing.T, test int, a, b, want []int) {
	t.Helper()
	if got, ok := impl.ProgIf(test, a, b); !ok || !slices.Equal(got, want) {
		t.Fatalf("ProgIf(%d, %v, %v) returned %v, %v, and not %v, true", test, a, b, got, ok, want)
	}
}

func wantWhile(t *testing.T, test int, a, want []int) {
	t.Helper()
	if got, ok := impl.ProgWhile(test, a); !ok || !slices.Equal(got, want) {
		t.Fatalf("ProgWhile(%d, %v) returned %v, %v, and not %v, true", test, a, got, ok, want)
	}
}

func wantEnds(t *testing.T, test int, a []int, want int) {
	t.Helper()
	wantSet(t, "ProgEnds", endsOn, a, test, want)
}

func TestFixedSetsOfPrograms(t *testing.T) {
	for _, c := range []struct {
		what                                      string
		a                                         []int
		set, after, before, surely, kept, largest int
	}{
		{"one state that leads nowhere, from no state", []int{0}, 0, 0, 0, 1, 0, 0},
		{"one state that leads nowhere, from it", []int{0}, 1, 0, 0, 1, 1, 1},
		{"one state that leads to itself, from no state", []int{1}, 0, 0, 0, 0, 0, 0},
		{"one state that leads to itself, from it", []int{1}, 1, 1, 1, 1, 1, 1},
		{"two states that lead everywhere", []int{3, 3}, 1, 3, 3, 0, 3, 0},
		{"two states that lead everywhere, both", []int{3, 3}, 3, 3, 3, 3, 3, 3},
		{"two states, of which one leads nowhere", []int{3, 0}, 1, 3, 1, 2, 3, 0},
		{"two states, of which one leads nowhere, from this", []int{3, 0}, 2, 0, 1, 2, 2, 2},
		{"a way of three states, from the first one", []int{2, 4, 0}, 1, 2, 0, 4, 7, 0},
		{"a way of three states, from the last one", []int{2, 4, 0}, 4, 0, 2, 6, 4, 4},
		{"a way of three states, from the first two", []int{2, 4, 0}, 3, 6, 1, 5, 7, 0},
		{"a way of three states, from the last two", []int{2, 4, 0}, 6, 4, 3, 7, 6, 6},
		{"a way of three states, from both ends", []int{2, 4, 0}, 5, 2, 2, 6, 7, 4},
		{"a circle of three states, from one", []int{2, 4, 1}, 1, 2, 4, 4, 7, 0},
		{"a circle of three states, from two", []int{2, 4, 1}, 6, 5, 3, 3, 7, 0},
		{"a circle of three states, from all", []int{2, 4, 1}, 7, 7, 7, 7, 7, 7},
		{"two ways to one state, from one between", []int{6, 8, 8, 0}, 2, 8, 1, 8, 10, 0},
		{"two ways to one state, from both between", []int{6, 8, 8, 0}, 6, 8, 1, 9, 14, 0},
		{"two ways to one state, from one between and it", []int{6, 8, 8, 0}, 10, 8, 7, 14, 10, 10},
		{"two ways to one state, from the first one and it", []int{6, 8, 8, 0}, 9, 6, 6, 14, 15, 8},
		{"two circles apart, from one of the first one", []int{2, 1, 8, 4}, 1, 2, 2, 2, 3, 0},
		{"two circles apart, from the first one and a half", []int{2, 1, 8, 4}, 7, 11, 11, 11, 15, 3},
	} {
		t.Run(c.what, func(t *testing.T) {
			wantSet(t, "ProgAfter", impl.ProgAfter, c.a, c.set, c.after)
			wantSet(t, "ProgBefore", impl.ProgBefore, c.a, c.set, c.before)
			wantSet(t, "ProgSurely", impl.ProgSurely, c.a, c.set, c.surely)
			wantSet(t, "ProgKept", impl.ProgKept, c.a, c.set, c.kept)
			wantSet(t, "ProgLargest", impl.ProgLargest, c.a, c.set, c.largest)
		})
	}
}

func TestFixedLoops(t *testing.T) {
	for _, c := range []struct {
		what string
		test int
		a    []int
		loop []int
		ends int
	}{
		{"one state that leads nowhere, outside of the test", 0, []int{0}, []int{1}, 1},
		{"one state that leads nowhere, in the test", 1, []int{0}, []int{0}, 1},
		{"one state that leads to itself, outside of the test", 0, []int{1}, []int{1}, 1},
		{"one state that leads to itself, in the test", 1, []int{1}, []int{0}, 0},
		{"a way of three states up to the last one", 3, []int{2, 4, 0}, []int{4, 4, 4}, 7},
		{"a way of three states out of the first one", 1, []int{2, 4, 0}, []int{2, 2, 4}, 7},
		{"a way of three states with the last one in the test", 4, []int{2, 4, 0}, []int{1, 2, 0}, 7},
		{"a way of three states with both ends in the test", 5, []int{2, 4, 0}, []int{2, 2, 0}, 7},
		{"a way of three states in the test", 7, []int{2, 4, 0}, []int{0, 0, 0}, 7},
		{"a circle of three states up to the last one", 3, []int{2, 4, 1}, []int{4, 4, 4}, 7},
		{"a circle of three states in the test", 7, []int{2, 4, 1}, []int{0, 0, 0}, 0},
		{"a state that leads to itself and out of the test", 1, []int{3, 2}, []int{2, 2}, 2},
		{"a state outside of the test that leads to itself", 1, []int{2, 2}, []int{2, 2}, 3},
		{"a circle of two states with a way out", 3, []int{2, 5, 4}, []int{4, 4, 4}, 4},
		{"a circle in the test, and a way out beside it", 3, []int{1, 4, 0}, []int{0, 4, 4}, 6},
		{"a way to a state that leads to itself, in the test", 7, []int{2, 4, 4}, []int{0, 0, 0}, 0},
		{"a way to a state that leads to itself, outside of it", 3, []int{2, 4, 4}, []int{4, 4, 4}, 7},
		{"two ways, one of which leads nowhere", 7, []int{6, 0, 8, 1}, []int{8, 0, 8, 8}, 15},
		{"a circle and a state that leads nowhere, in the test", 15, []int{6, 0, 8, 1}, []int{0, 0, 0, 0}, 2},
		{"two ways to two states outside of the test", 3, []int{6, 9, 0, 0}, []int{12, 12, 4, 8}, 12},
		{"a way of four states in the test", 15, []int{2, 4, 8, 0}, []int{0, 0, 0, 0}, 15},
		{"a way of four states up to the last one", 7, []int{2, 4, 8, 0}, []int{8, 8, 8, 8}, 15},
		{"a way that leaves the test and comes back", 5, []int{2, 4, 8, 0}, []int{2, 2, 8, 8}, 15},
	} {
		t.Run(c.what, func(t *testing.T) {
			wantWhile(t, c.test, c.a, c.loop)
			wantEnds(t, c.test, c.a, c.ends)
		})
	}
}

func TestFixedBranches(t *testing.T) {
	for _, c := range []struct {
		test       int
		a, b, want []int
	}{
		{0, []int{0}, []int{1}, []int{1}},
		{1, []int{0}, []int{1}, []int{0}},
		{0, []int{1}, []int{0}, []int{0}},
		{1, []int{1}, []int{0}, []int{1}},
		{1, []int{2, 1}, []int{3, 3}, []int{2, 3}},
		{2, []int{2, 1}, []int{3, 3}, []int{3, 1}},
		{6, []int{2, 4, 0}, []int{7, 7, 7}, []int{7, 4, 0}},
		{1, []int{2, 4, 0}, []int{7, 7, 7}, []int{2, 7, 7}},
		{0, []int{2, 4, 0}, []int{0, 0, 7}, []int{0, 0, 7}},
		{7, []int{2, 4, 0}, []int{0, 0, 7}, []int{2, 4, 0}},
		{9, []int{1, 2, 4, 8}, []int{14, 13, 11, 7}, []int{1, 13, 11, 8}},
	} {
		wantIf(t, c.test, c.a, c.b, c.want)
	}
}

func TestFixedTriples(t *testing.T) {
	for _, c := range []struct {
		pre  int
		a    []int
		post int
		want bool
	}{
		{0, []int{1}, 0, true},
		{1, []int{1}, 0, false},
		{1, []int{1}, 1, true},
		{1, []int{0}, 0, true},
		{3, []int{0, 3}, 1, false},
		{1, []int{0, 3}, 0, true},
		{1, []int{2, 4, 0}, 2, true},
		{1, []int{2, 4, 0}, 5, false},
		{3, []int{2, 4, 0}, 6, true},
		{3, []int{2, 4, 0}, 4, false},
		{7, []int{2, 4, 0}, 6, true},
		{4, []int{2, 4, 0}, 0, true},
		{6, []int{6, 8, 8, 0}, 8, true},
		{7, []int{6, 8, 8, 0}, 10, false},
		{15, []int{15, 15, 15, 15}, 15, true},
		{8, []int{15, 15, 15, 15}, 14, false},
	} {
		wantTriple(t, c.pre, c.a, c.post, c.want)
	}
}

func TestSetsOfProgramsByTheirDefinitions(t *testing.T) {
	for a, set := range programsAndSets() {
		wantSet(t, "ProgAfter", impl.ProgAfter, a, set, takenTogether(a, set))
		wantSet(t, "ProgBefore", impl.ProgBefore, a, set, beforeOf(a, set))
		wantSet(t, "ProgSurely", impl.ProgSurely, a, set, surelyOf(a, set))
	}
}

func TestProgTripleByItsDefinition(t *testing.T) {
	for a, pre := range programsAndSets() {
		for post := range 1 << len(a) {
			wantTriple(t, pre, a, post, !leadsOutside(a, pre, post))
		}
	}
}

func TestProgIfByItsDefinition(t *testing.T) {
	for programs, test := range twoProgramsAndTests() {
		a, b := programs[0], programs[1]
		wantIf(t, test, a, b, branchOf(test, a, b))
	}
}

func TestLoopsByTheirDefinitions(t *testing.T) {
	for a, test := range programsAndSets() {
		wantWhile(t, test, a, loopOf(test, a))
		wantEnds(t, test, a, endedOf(test, a))
	}
}

func TestKeptSetsByTheirDefinitions(t *testing.T) {
	for a := range allRelations() {
		kept := keptSets(a)
		for set := range 1 << len(a) {
			wantSet(t, "ProgKept", impl.ProgKept, a, set, leastWith(kept, set))
			wantSet(t, "ProgLargest", impl.ProgLargest, a, set, greatestIn(kept, set))
		}
	}
}

// A state that leads nowhere leads to no state outside of any set, is kept alone, ends in each loop, and comes out of no test that has it.
func TestStatesThatLeadNowhere(t *testing.T) {
	tried := 0
	for a, set := range programsAndSets() {
		for x, row := range a {
			if row != 0 {
				continue
			}
			tried++
			wantSet(t, "ProgAfter", impl.ProgAfter, a, 1<<x, 0)
			wantTriple(t, 1<<x, a, 0, true)
			wantSet(t, "ProgKept", impl.ProgKept, a, 1<<x, 1<<x)
			wantSet(t, "ProgLargest", impl.ProgLargest, a, 1<<x, 1<<x)
			if got := setMadeBy(t, "ProgSurely", impl.ProgSurely, a, set); !isInSet(got, x) {
				t.Fatalf("ProgSurely(%v, %d) is %d", a, set, got)
			}
			if got := setMadeBy(t, "ProgEnds", endsOn, a, set); !isInSet(got, x) {
				t.Fatalf("ProgEnds(%d, %v) is %d", set, a, got)
			}
			want := 1 << x
			if isInSet(set, x) {
				want = 0
			}
			if loop, ok := impl.ProgWhile(set, a); !ok || loop[x] != want {
				t.Fatalf("ProgWhile(%d, %v) is %v, %v", set, a, loop, ok)
			}
		}
	}
	if tried == 0 {
		t.Fatal("no state leads nowhere")
	}
}

func TestProgramsWithoutPairs(t *testing.T) {
	for n := 1; n <= pointsMax; n++ {
		none, all := noPairs(n), allStates(n)
		for set := range 1 << n {
			wantSet(t, "ProgAfter", impl.ProgAfter, none, set, 0)
			wantSet(t, "ProgBefore", impl.ProgBefore, none, set, 0)
			wantSet(t, "ProgSurely", impl.ProgSurely, none, set, all)
			wantSet(t, "ProgKept", impl.ProgKept, none, set, set)
			wantSet(t, "ProgLargest", impl.ProgLargest, none, set, set)
			wantEnds(t, set, none, all)
			wantWhile(t, set, none, branchOf(set, none, samePoints(n)))
			wantIf(t, set, none, none, none)
			for post := range 1 << n {
				wantTriple(t, set, none, post, true)
			}
		}
	}
}

func TestProgramsWithAllPairs(t *testing.T) {
	for n := 1; n <= pointsMax; n++ {
		whole, all := allPairs(n), allStates(n)
		for set := range 1 << n {
			other := all - set
			some, whenAll := all, 0
			if set == 0 {
				some = 0
			}
			if set == all {
				whenAll = all
			}
			wantSet(t, "ProgAfter", impl.ProgAfter, whole, set, some)
			wantSet(t, "ProgBefore", impl.ProgBefore, whole, set, some)
			wantSet(t, "ProgSurely", impl.ProgSurely, whole, set, whenAll)
			wantSet(t, "ProgKept", impl.ProgKept, whole, set, some)
			wantSet(t, "ProgLargest", impl.ProgLargest, whole, set, whenAll)
			wantEnds(t, set, whole, other)
			wantWhile(t, set, whole, branchOf(set, inRectangles(n, [][]int{{all, other}}), samePoints(n)))
			wantIf(t, set, whole, whole, whole)
			for post := range 1 << n {
				wantTriple(t, set, whole, post, set == 0 || post == all)
			}
		}
	}
}

func TestTheEmptyTestAndThatOfAllStates(t *testing.T) {
	for a := range allRelations() {
		n := len(a)
		all := allStates(n)
		wantWhile(t, 0, a, samePoints(n))
		wantWhile(t, all, a, noPairs(n))
		wantEnds(t, 0, a, all)
		wantIf(t, 0, allPairs(n), a, a)
		wantIf(t, 0, noPairs(n), a, a)
		wantIf(t, all, a, allPairs(n), a)
		wantIf(t, all, a, noPairs(n), a)
		wantTriple(t, 0, a, 0, true)
		wantTriple(t, all, a, all, true)
		for _, f := range []setFunction{{"ProgAfter", impl.ProgAfter}, {"ProgBefore", impl.ProgBefore}, {"ProgKept", impl.ProgKept}, {"ProgLargest", impl.ProgLargest}} {
			wantSet(t, f.name, f.call, a, 0, 0)
		}
		for _, f := range []setFunction{{"ProgSurely", impl.ProgSurely}, {"ProgKept", impl.ProgKept}, {"ProgLargest", impl.ProgLargest}} {
			wantSet(t, f.name, f.call, a, all, all)
		}
	}
}

// What leads from each state to some goes on without end in the test of all; what leads only to states further on never does.
func TestProgramsThatGoOnWithoutEnd(t *testing.T) {
	for n := 1; n <= pointsMax; n++ {
		all := allStates(n)
		for p := range mapsOf(n) {
			wantEnds(t, all, relationOfMap(p), 0)
			wantWhile(t, all, relationOfMap(p), noPairs(n))
		}
		for test := range 1 << n {
			wantEnds(t, test, samePoints(n), all-test)
			wantWhile(t, test, samePoints(n), branchOf(test, noPairs(n), samePoints(n)))
		}
		for p := range renamings(n) {
			chain := chainOf(p)
			toOthers := relationWhere(n, func(x, y int) bool { return x != y && relates(chain, x, y) })
			wantEnds(t, all, chain, 0)
			wantEnds(t, all, toOthers, all)
		}
	}
}
