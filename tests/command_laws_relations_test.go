package tests

import (
	"slices"
	"strconv"
	"strings"
	"testing"

	"loop.example/fewrelations/impl"
)

// The tests of this file and of those named alike are those of the promises of earlier chapters through the words that call what the promises are about.

func pairLine(word string, x, y int) string {
	return word + " " + strconv.Itoa(x) + " " + strconv.Itoa(y)
}

func lineWith(word string, list []int) string {
	return word + " " + shownList(list)
}

func lineWithNumber(word string, number int) string {
	return word + " " + strconv.Itoa(number)
}

func pairsByWord(t *testing.T, a []int) [][]int {
	t.Helper()
	return pairsIn(t, answerOf(t, a, "pairs"))
}

func sizeByWord(t *testing.T, a []int) int {
	t.Helper()
	return pairsBehind(t, rowsOf(a)+"\n")
}

func wantShown(t *testing.T, what string, got, want []int) {
	t.Helper()
	if !slices.Equal(got, want) {
		t.Fatalf("%s is %v, and not %v", what, got, want)
	}
}

func wantBelow(t *testing.T, what string, a, b []int) {
	t.Helper()
	if !impl.RelBelow(a, b) {
		t.Fatalf("%s: %v is not below %v", what, a, b)
	}
}

func TestPromise1And2And3ThroughWords(t *testing.T) {
	for a := range manyRelations() {
		pairs := pairsByWord(t, a)
		if len(pairs) != sizeByWord(t, a) || !slices.IsSortedFunc(pairs, slices.Compare[[]int]) {
			t.Fatalf("the pairs of %v are %v, and their number is told as %d", a, pairs, sizeByWord(t, a))
		}
		lines := []string{lineWithNumber("points", len(a))}
		for _, p := range slices.Backward(pairs) {
			lines = append(lines, pairLine("pair", p[0], p[1]))
		}
		text := linesOf(append(lines, "show")...)
		wantOutput(t, text, strings.Repeat("ok\n", len(lines))+shownList(a)+"\npairs "+strconv.Itoa(len(pairs))+"\n")
		for _, p := range pairs {
			lines = append(lines, pairLine("pair", p[0], p[1]))
		}
		if got := pairsBehind(t, linesOf(lines...)); got != len(pairs) {
			t.Fatalf("the pairs %v, each one told twice, are %d", pairs, got)
		}
	}
}

func TestPromise4And5ThroughWords(t *testing.T) {
	for n := 1; n <= pointsMax; n++ {
		for a := range someRelationsOn(n) {
			for x := range n {
				for y := range n {
					put, taken := shownBehind(t, a, pairLine("pair", x, y)), shownBehind(t, a, pairLine("cut", x, y))
					wantBelow(t, "a pair is put to it", a, put)
					wantBelow(t, "a pair is taken away", taken, a)
					if !relates(put, x, y) || relates(taken, x, y) || sizeByWord(t, put) != sizeByWord(t, taken)+1 {
						t.Fatalf("%v with the pair of %d and %d is %v, and without it %v", a, x, y, put, taken)
					}
					wantShown(t, "the other one without a pair", shownBehind(t, a, pairLine("cut", x, y), "other"), shownBehind(t, a, "other", pairLine("pair", x, y)))
				}
			}
		}
	}
}

func TestPromise6And7ThroughWords(t *testing.T) {
	for a := range manyRelations() {
		other, turned := shownBehind(t, a, "other"), shownBehind(t, a, "turned")
		wantShown(t, "other twice", shownBehind(t, a, "other", "other"), a)
		wantShown(t, "turned twice", shownBehind(t, a, "turned", "turned"), a)
		wantShown(t, "other and turned", shownBehind(t, a, "other", "turned"), shownBehind(t, turned, "other"))
		whole, ok := impl.RelEither(a, other)
		wantList(t, "RelEither of both", whole, ok, allPairs(len(a)))
		if sizeByWord(t, a)+sizeByWord(t, other) != len(a)*len(a) || sizeByWord(t, turned) != sizeByWord(t, a) {
			t.Fatalf("%v has %d pairs, the other one %d, and turned %d", a, sizeByWord(t, a), sizeByWord(t, other), sizeByWord(t, turned))
		}
	}
}

func TestPromise8ThroughWords(t *testing.T) {
	for a, b := range fewPairsOfRelations() {
		if impl.RelBelow(a, b) != impl.RelBelow(shownBehind(t, a, "turned"), shownBehind(t, b, "turned")) {
			t.Fatalf("just one of %v and %v, and both turned, are below", a, b)
		}
	}
}

func TestPromise9And10ThroughWords(t *testing.T) {
	for a := range manyRelations() {
		starts, targets := endsOf(t, a)
		size := sizeByWord(t, a)
		if size > len(a)*len(a) || (size == 0) != (starts == 0 && targets == 0) {
			t.Fatalf("%v has %d pairs", a, size)
		}
		turnedStarts, turnedTargets := endsOf(t, shownBehind(t, a, "turned"))
		if turnedStarts != targets || turnedTargets != starts {
			t.Fatalf("the ends of %v are not exchanged by turned", a)
		}
	}
}

func TestPromise11ThroughWords(t *testing.T) {
	for n := 1; n <= 3; n++ {
		for p := range renamings(n) {
			named := func(a []int) ([]int, bool) { return impl.RelNamed(a, p) }
			for a := range someRelationsOn(n) {
				b := madeBy(t, "RelNamed", named, a)
				twice := madeBy(t, "RelNamed", named, shownBehind(t, a, lineWith("comp", a)))
				wantShown(t, "comp of it and itself", shownBehind(t, b, lineWith("comp", b)), twice)
			}
		}
	}
}

func TestPromise12And13ThroughWords(t *testing.T) {
	for a, b := range fewPairsOfRelations() {
		turnedA, turnedB := shownBehind(t, a, "turned"), shownBehind(t, b, "turned")
		wantShown(t, "comp and turned", shownBehind(t, a, lineWith("comp", b), "turned"), shownBehind(t, turnedB, lineWith("comp", turnedA)))
		other := shownBehind(t, a, lineWith("comp", b), "other")
		wantBelow(t, "comp of it turned and the other one", shownBehind(t, turnedA, lineWith("comp", other)), shownBehind(t, b, "other"))
	}
}

func TestPromise14ThroughWords(t *testing.T) {
	for n := 1; n <= pointsMax; n++ {
		for a := range someRelationsOn(n) {
			for _, k := range []int{0, 1, 2, 3, 4, 8, 9, 10, 11, 49, 97, 98} {
				next := shownBehind(t, a, lineWithNumber("power", k+1))
				wantShown(t, "a power and comp", shownBehind(t, a, lineWithNumber("power", k), lineWith("comp", a)), next)
			}
		}
	}
}

func TestPromise15And16And17ThroughWords(t *testing.T) {
	for a, b := range fewPairsOfRelations() {
		left, right := shownBehind(t, a, lineWith("left", b)), shownBehind(t, a, lineWith("right", b))
		wantBelow(t, "comp of it and left", shownBehind(t, a, lineWith("comp", left)), b)
		wantBelow(t, "comp of right and it", shownBehind(t, right, lineWith("comp", a)), b)
		made := shownBehind(t, a, lineWith("comp", b))
		wantBelow(t, "left of it and comp", b, shownBehind(t, a, lineWith("left", made)))
		turnedB := shownBehind(t, b, "turned")
		wantShown(t, "left of both turned, turned", shownBehind(t, a, "turned", lineWith("left", turnedB), "turned"), right)
		if x, ok := impl.CompSolve(a, b); ok {
			wantShown(t, "CompSolve", x, left)
			wantShown(t, "comp of it and CompSolve", shownBehind(t, a, lineWith("comp", x)), b)
		}
	}
}

func TestPromise18And19ThroughWords(t *testing.T) {
	for a := range manyRelations() {
		reach := shownBehind(t, a, "reach")
		wantBelow(t, "reach", a, reach)
		wantBelow(t, "comp of reach and itself", shownBehind(t, a, "reach", lineWith("comp", reach)), reach)
		wantShown(t, "reach twice", shownBehind(t, a, "reach", "reach"), reach)
		lines := []string{}
		for x := range a {
			lines = append(lines, pairLine("pair", x, x))
		}
		lines = append(lines, lineWithNumber("power", len(a)))
		wantShown(t, "star", shownBehind(t, a, "star"), shownBehind(t, a, lines...))
	}
}

func TestPromise20And21ThroughWords(t *testing.T) {
	for n := 1; n <= pointsMax; n++ {
		for a := range someRelationsOn(n) {
			for x := range n {
				for y := range n {
					k, ok := impl.CompFar(a, x, y)
					if ok && !relates(shownBehind(t, a, lineWithNumber("power", k)), x, y) {
						t.Fatalf("the power %d of %v does not relate %d and %d", k, a, x, y)
					}
				}
			}
			index := listIn(t, answerOf(t, a, "index"))
			if len(index) != 2 || index[0] < 0 || index[1] < 1 {
				t.Fatalf("the index of %v is %v", a, index)
			}
			first, again := lineWithNumber("power", index[0]), lineWithNumber("power", index[0]+index[1])
			wantShown(t, "the power that comes again", shownBehind(t, a, again), shownBehind(t, a, first))
		}
	}
}

func TestPromise22ThroughWords(t *testing.T) {
	for n, kinds := range []string{1: "rsatcfdjo", 2: "rsatfdjo", 3: "rsatfdjo", 4: "rsatfdjo"} {
		if n > 0 {
			wantOutput(t, linesOf(lineWithNumber("points", n), "power 0", "kinds"), "ok\nok\n"+kinds+"\npairs "+strconv.Itoa(n)+"\n")
		}
	}
}

func TestPromise23And24ThroughWords(t *testing.T) {
	for a := range manyRelations() {
		kinds, turned := answerOf(t, a, "kinds"), answerOf(t, a, "turned", "kinds")
		if kinds != "-" && !impl.KindIn(a, kinds) {
			t.Fatalf("%v is not of the kinds %q", a, kinds)
		}
		for _, c := range []struct{ of, ofTurned string }{{"f", "j"}, {"d", "o"}, {"j", "f"}, {"o", "d"}, {"t", "t"}} {
			if strings.Contains(kinds, c.of) != strings.Contains(turned, c.ofTurned) {
				t.Fatalf("the kinds of %v are %q, and turned %q", a, kinds, turned)
			}
		}
	}
}

func TestPromise25ThroughWords(t *testing.T) {
	for n := 1; n <= pointsMax; n++ {
		for a := range someRelationsOn(n) {
			for text := range partsOf("rst") {
				least := shownBehind(t, a, "least "+text)
				wantBelow(t, "least with "+text, a, least)
				wantShown(t, "least twice", shownBehind(t, a, "least "+text, "least "+text), least)
				if kinds := answerOf(t, a, "least "+text, "kinds"); !hasLetters(kinds, text) {
					t.Fatalf("least with %q of %v, %v, has the kinds %q", text, a, least, kinds)
				}
			}
		}
	}
}
