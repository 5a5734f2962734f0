package tests

import (
	"slices"
	"strconv"
	"testing"

	"loop.example/fewrelations/impl"
)

func setByWord(t *testing.T, word string, a []int, set int) int {
	t.Helper()
	return numberIn(t, answerOf(t, a, word+" "+strconv.Itoa(set)))
}

func rankByWord(t *testing.T, a []int) int {
	t.Helper()
	return numberIn(t, answerOf(t, a, "rank"))
}

// someWithSets yields some relations, each with every set of its points.
func someWithSets(yield func([]int, int) bool) {
	for n := 1; n <= pointsMax; n++ {
		for a := range someRelationsOn(n) {
			for set := range 1 << n {
				if !yield(a, set) {
					return
				}
			}
		}
	}
}

func TestPromise49And50ThroughWords(t *testing.T) {
	for a := range manyRelations() {
		full := pairsIn(t, answerOf(t, a, "all"))
		made, ok := impl.RectOf(len(a), full)
		wantList(t, "RectOf of all", made, ok, a)
		for i, one := range full {
			if i > 0 && full[i-1][0] >= one[0] {
				t.Fatalf("all full rectangles of %v are %v", a, full)
			}
			wantSet(t, "RectPolar", impl.RectPolar, a, one[0], one[1])
		}
		if turned := pairsIn(t, answerOf(t, a, "turned", "all")); len(turned) != len(full) {
			t.Fatalf("all full rectangles of %v are %v, and turned %v", a, full, turned)
		}
	}
}

func TestPromise53ThroughWords(t *testing.T) {
	for a := range manyRelations() {
		rank := rankByWord(t, a)
		if rank > len(a) || (rank == 0) != (sizeByWord(t, a) == 0) {
			t.Fatalf("the rank of %v is %d", a, rank)
		}
		turned, twice := numberIn(t, answerOf(t, a, "turned", "rank")), numberIn(t, answerOf(t, a, lineWith("comp", a), "rank"))
		if turned != rank || twice > rank {
			t.Fatalf("the rank of %v is %d, turned %d, and with itself %d", a, rank, turned, twice)
		}
	}
}

func TestPromise54And55And57ThroughWords(t *testing.T) {
	for a := range manyRelations() {
		if got, turned := answerOf(t, a, "blocks"), answerOf(t, a, "turned", "blocks"); (got == "no") != (turned == "no") {
			t.Fatalf("the blocks of %v are %q, and turned %q", a, got, turned)
		}
		step := shownBehind(t, a, "step")
		wantBelow(t, "step", a, step)
		wantShown(t, "step twice", shownBehind(t, a, "step", "step"), step)
		blocks := pairsIn(t, answerOf(t, a, "step", "blocks"))
		made, ok := impl.RectOf(len(a), blocks)
		wantList(t, "RectOf of the blocks", made, ok, step)
		if len(blocks) != rankByWord(t, step) {
			t.Fatalf("the blocks of %v are %v", step, blocks)
		}
		first, second := 0, 0
		for _, one := range blocks {
			if first&one[0] != 0 || second&one[1] != 0 {
				t.Fatalf("the blocks of %v are %v", step, blocks)
			}
			first, second = first|one[0], second|one[1]
		}
	}
}

func TestPromise56ThroughWords(t *testing.T) {
	for n := 1; n <= pointsMax; n++ {
		for first := range 1 << n {
			for second := range 1 << n {
				one := [][]int{{first, second}}
				several := append(one, []int{1, 1}, []int{allStates(n), 1})
				for _, list := range [][][]int{one, several} {
					made, ok := impl.RectOf(n, list)
					if !ok || rankByWord(t, made) > len(list) {
						t.Fatalf("the rank of %v, made of %v, is %d", made, list, rankByWord(t, made))
					}
				}
			}
		}
	}
}

func TestPromise58And59ThroughWords(t *testing.T) {
	for n := 1; n <= pointsMax; n++ {
		for a := range someRelationsOn(n) {
			space, turned := listIn(t, answerOf(t, a, "space")), listIn(t, answerOf(t, a, "turned", "space"))
			if space[0] != 0 || !slices.IsSorted(space) || len(slices.Compact(slices.Clone(space))) != len(space) || len(turned) != len(space) {
				t.Fatalf("the space of %v is %v, and turned %v", a, space, turned)
			}
			for _, x := range space {
				for _, y := range space {
					met, ok := impl.SpaceMeet(a, x, y)
					if !ok || !slices.Contains(space, met) || !isPart(met, x&y) {
						t.Fatalf("the space of %v is %v, and the meet of %d and %d in it %d, %v", a, space, x, y, met, ok)
					}
				}
			}
		}
	}
}

func TestPromise60And62ThroughWords(t *testing.T) {
	for a := range manyRelations() {
		here := answersOf(t, a, "even", "regular", "turned", "even", "regular")
		if here[0] != "yes" && here[0] != "not" || !slices.Equal(here, []string{here[0], here[0], "ok", here[0], here[0]}) {
			t.Fatalf("%v is even and regular, and so turned: %q", a, here)
		}
	}
}

// Of two relations with the same space each one is made of the other one by its right residual.
func TestPromise61ThroughWords(t *testing.T) {
	held := 0
	for a, b := range fewPairsOfRelations() {
		if !impl.SpaceSame(a, b) {
			continue
		}
		held++
		wantShown(t, "comp of right and the other one", shownBehind(t, b, lineWith("right", a), lineWith("comp", b)), a)
	}
	if held == 0 {
		t.Fatal("SpaceSame never held")
	}
}

func TestPromise63And64ThroughWords(t *testing.T) {
	for a := range manyRelations() {
		most := shownBehind(t, a, "most")
		made := shownBehind(t, a, lineWith("comp", most), lineWith("comp", a))
		wantBelow(t, "comp of it, most and it", made, a)
		if isSame := slices.Equal(made, a); isSame != (answerOf(t, a, "regular") == "yes") {
			t.Fatalf("comp of %v, most and it is %v", a, made)
		}
		if x, ok := impl.RegularBack(a); ok {
			wantShown(t, "comp of it, RegularBack and it", shownBehind(t, a, lineWith("comp", x), lineWith("comp", a)), a)
			wantShown(t, "comp of RegularBack, it and RegularBack", shownBehind(t, x, lineWith("comp", a), lineWith("comp", x)), x)
		}
	}
}

func TestPromise65And66ThroughWords(t *testing.T) {
	for n := 1; n <= 3; n++ {
		regular, square := 0, 0
		for a := range relationsOn(n) {
			if answerOf(t, a, "regular") == "yes" {
				regular++
			}
			if answerOf(t, a, lineWith("comp", a), "show") == shownList(a) {
				square++
			}
		}
		if regular < square || n <= 2 && regular != 1<<(n*n) {
			t.Fatalf("on %d points, %d relations are regular, and %d their own squares", n, regular, square)
		}
		if count, ok := impl.RegularCount(n); !ok || count != regular {
			t.Fatalf("RegularCount(%d) is %d, %v, and by words %d", n, count, ok, regular)
		}
		if count, ok := impl.RegularSquare(n); !ok || count != square {
			t.Fatalf("RegularSquare(%d) is %d, %v, and by words %d", n, count, ok, square)
		}
	}
}

func TestPromise67And68ThroughWords(t *testing.T) {
	for a, set := range someWithSets {
		after, all := setByWord(t, "after", a, set), allStates(len(a))
		if turned := answerOf(t, a, "turned", lineWithNumber("before", set)); turned != strconv.Itoa(after) {
			t.Fatalf("%v leads from %d to %d, and turned it leads before it from %s", a, set, after, turned)
		}
		wantTriple(t, set, a, after, true)
		if before, surely := setByWord(t, "before", a, set), setByWord(t, "surely", a, all-set); before != all-surely {
			t.Fatalf("%v leads to %d from %d, and surely to the others from %d", a, set, before, surely)
		}
	}
}

func TestPromise69And70ThroughWords(t *testing.T) {
	for a, set := range someWithSets {
		surely, after := setByWord(t, "surely", a, set), setByWord(t, "after", a, set)
		wantTriple(t, surely, a, set, true)
		if led := setByWord(t, "after", a, surely); !isPart(led, set) {
			t.Fatalf("%v leads from %d to %d, and not surely to %d", a, surely, led, set)
		}
		for x := range a {
			if !isInSet(surely, x) && isPart(setByWord(t, "after", a, 1<<x), set) {
				t.Fatalf("%v leads from %d surely to %d, and %d is not told", a, x, set, surely)
			}
		}
		for post := range 1 << len(a) {
			if impl.ProgTriple(set, a, post) != isPart(after, post) {
				t.Fatalf("%v leads from %d to %d, and ProgTriple is not so for %d", a, set, after, post)
			}
		}
	}
}

func TestPromise72And73ThroughWords(t *testing.T) {
	for a, test := range someWithSets {
		all := allStates(len(a))
		loop := shownBehind(t, a, lineWithNumber("while", test))
		goesOn, same := shownBehind(t, a, lineWith("comp", loop)), shownBehind(t, a, "power 0")
		wantIf(t, test, goesOn, same, loop)
		if out := setByWord(t, "after", loop, all); !isPart(out, all-test) {
			t.Fatalf("%v going on with the test %d leads to %d", a, test, out)
		}
		largest := setMadeBy(t, "ProgLargest", impl.ProgLargest, a, all-1)
		if led := setByWord(t, "after", loop, largest); !isPart(led, largest) {
			t.Fatalf("%v going on with the test %d leads from %d to %d", a, test, largest, led)
		}
	}
}

func TestPromise74ThroughWords(t *testing.T) {
	for a, test := range someWithSets {
		ends := setByWord(t, "ends", a, test)
		if led := setByWord(t, "surely", a, ends); ends != allStates(len(a))-test|led {
			t.Fatalf("%v ends with the test %d from %d, and leads surely to this from %d", a, test, ends, led)
		}
	}
}

func TestPromise75And76ThroughWords(t *testing.T) {
	for a, set := range someWithSets {
		all := allStates(len(a))
		kept := setByWord(t, "kept", a, set)
		if !isPart(set, kept) || !isPart(setByWord(t, "after", a, kept), kept) || setByWord(t, "kept", a, kept) != kept {
			t.Fatalf("%v keeps %d for %d", a, kept, set)
		}
		largest := setMadeBy(t, "ProgLargest", impl.ProgLargest, a, set)
		if turned := answerOf(t, a, "turned", lineWithNumber("kept", all-set)); turned != strconv.Itoa(all-largest) {
			t.Fatalf("%v turned keeps %s for %d", a, turned, all-set)
		}
	}
}
