package tests

import (
	"slices"
	"strconv"
	"testing"

	"loop.example/fewrelations/impl"
)

func TestWordsThatChangeTheRelation(t *testing.T) {
	for _, c := range []struct{ rows, line, shown string }{
		{"2 4 0", "points 1", "0"},
		{"2 4 0", "points 2", "0 0"},
		{"2 4 0", "points 03", "0 0 0"},
		{"2 4 0", "points 4", "0 0 0 0"},
		{"2 4 0", "rows 3 0", "3 0"},
		{"2 4 0", "rows 1", "1"},
		{"2 4 0", "rows 01 07 00 4", "1 7 0 4"},
		{"1", "rows 15 0 01 9", "15 0 1 9"},
		{"2 4 0", "pair 0 2", "6 4 0"},
		{"2 4 0", "pair 0 1", "2 4 0"},
		{"2 4 0", "pair 02 00", "2 4 1"},
		{"0 0 0 0", "pair 3 2", "0 0 0 4"},
		{"2 4 0", "cut 0 1", "0 4 0"},
		{"2 4 0", "cut 2 2", "2 4 0"},
		{"15 15 15 15", "cut 03 1", "15 15 15 13"},
		{"2 4 0", "turned", "0 1 2"},
		{"3 0", "turned", "1 1"},
		{"2 4 0", "other", "5 3 7"},
		{"0", "other", "1"},
		{"2 4 0", "reach", "6 4 0"},
		{"2 4 1", "reach", "7 7 7"},
		{"2 4 0", "star", "7 6 4"},
		{"0 0", "star", "1 2"},
		{"6 4 0", "step", "6 6 0"},
		{"1 2 4", "step", "1 2 4"},
		{"6 6 0", "kernel", "3 3 4"},
		{"6 4 0", "kernel", "1 2 4"},
		{"0 0", "kernel", "3 3"},
		{"1 2 3", "most", "1 2 7"},
		{"0 0", "most", "3 3"},
		{"2 4 1", "power 0", "1 2 4"},
		{"2 4 1", "power 1", "2 4 1"},
		{"2 4 1", "power 2", "4 1 2"},
		{"2 4 1", "power 05", "4 1 2"},
		{"2 4 1", "power 99", "1 2 4"},
		{"2 4 0", "power 3", "0 0 0"},
		{"2 4 0", "comp 4 4 1", "4 1 0"},
		{"2 4 0", "left 4 4 1", "7 4 4"},
		{"2 4 0", "right 4 4 1", "6 6 4"},
		{"2 4 0", "least ", "2 4 0"},
		{"2 4 0", "least r", "3 6 4"},
		{"2 4 0", "least s", "2 5 2"},
		{"2 4 0", "least t", "6 4 0"},
		{"2 4 0", "least rs", "3 7 6"},
		{"2 4 0", "least tsr", "7 7 7"},
		{"2 4 0", "while 0", "1 2 4"},
		{"2 4 0", "while 3", "4 4 4"},
		{"2 4 0", "while 07", "0 0 0"},
	} {
		wantOutput(t, "rows "+c.rows+"\n"+c.line+"\nshow\n", "ok\nok\n"+c.shown+"\n"+"pairs "+strconv.Itoa(sizeOf(t, listIn(t, c.shown)))+"\n")
	}
}

func TestWordsThatTellOfTheRelation(t *testing.T) {
	for _, c := range []struct{ rows, line, answer string }{
		{"2 4 0", "show", "2 4 0"},
		{"0", "show", "0"},
		{"15 14 13 12", "show", "15 14 13 12"},
		{"2 4 0", "pairs", "0:1 1:2"},
		{"0 0 1 12", "pairs", "2:0 3:2 3:3"},
		{"0 0 0", "pairs", "-"},
		{"2 4 0", "kinds", "iafj"},
		{"1", "kinds", "rsatcfdjo"},
		{"3 1 0", "kinds", "s"},
		{"3 4 1", "kinds", "ado"},
		{"5 3 4", "kinds", "rado"},
		{"3 5 0", "kinds", "o"},
		{"6 3 0 1", "kinds", "-"},
		{"2 4 0", "index", "3 1"},
		{"2 4 1", "index", "0 3"},
		{"1", "index", "0 1"},
		{"2 4 8 4", "index", "2 2"},
		{"5 2 5", "classes", "5 2"},
		{"1 2 4", "classes", "1 2 4"},
		{"15 15 15 15", "classes", "15"},
		{"2 4 0", "classes", "no"},
		{"7 6 4", "ways", "1"},
		{"7 2 4", "ways", "2"},
		{"1 2 4 8", "ways", "24"},
		{"3 3", "ways", "no"},
		{"7 6 4", "sizes", "3 1"},
		{"7 2 4", "sizes", "2 2"},
		{"1 2 4 8", "sizes", "1 4"},
		{"2 4 0", "sizes", "no"},
		{"7 2 4", "bound 0", "0"},
		{"7 2 4", "bound 3", "1"},
		{"7 2 4", "bound 04", "2"},
		{"7 2 4", "bound 6", "no"},
		{"7 2 4", "bound 8", "no"},
		{"2 4 0", "bound 0", "no"},
		{"6 4 0", "all", "0:7 1:6 3:4 7:0"},
		{"1", "all", "1:1"},
		{"0", "all", "0:1 1:0"},
		{"6 4 0", "rank", "2"},
		{"0 0 0 0", "rank", "0"},
		{"14 13 11 7", "rank", "4"},
		{"6 6 0", "blocks", "3:6"},
		{"2 1 0 8", "blocks", "1:2 2:1 8:8"},
		{"0 0 0", "blocks", "-"},
		{"6 4 0", "blocks", "no"},
		{"6 4 0", "space", "0 4 6"},
		{"0 0", "space", "0"},
		{"3 6 0", "space", "0 3 6 7"},
		{"6 4 0", "even", "yes"},
		{"6 5 3", "even", "not"},
		{"1 2 3", "regular", "yes"},
		{"6 5 3", "regular", "not"},
		{"2 4 0", "after 3", "6"},
		{"2 4 0", "after 04", "0"},
		{"2 4 0", "after 8", "no"},
		{"2 4 0", "before 6", "3"},
		{"2 4 0", "before 8", "no"},
		{"2 4 0", "surely 4", "6"},
		{"2 4 0", "surely 0", "4"},
		{"2 4 0", "surely 8", "no"},
		{"2 4 0", "kept 2", "6"},
		{"2 4 0", "kept 8", "no"},
		{"3 2", "ends 1", "2"},
		{"3 2", "ends 00", "3"},
		{"3 2", "ends 4", "no"},
	} {
		a := listIn(t, c.rows)
		// A line that tells changes nothing, whether it fails or not.
		wantOutput(t, "rows "+c.rows+"\n"+c.line+"\nshow\n", "ok\n"+c.answer+"\n"+c.rows+"\npairs "+strconv.Itoa(sizeOf(t, a))+"\n")
	}
}

func TestScriptsByHand(t *testing.T) {
	for _, c := range []struct{ text, want string }{
		{"", "pairs 0\n"},
		{"show\n", "0 0 0\npairs 0\n"},
		{"pairs\nkinds\nclasses\nindex\nblocks\nspace\nrank\n", "-\nisatfj\nno\n1 1\n-\n0\n0\npairs 0\n"},
		{"pair 0 1\npair 1 2\npair 0 1\ncut 1 2\nshow\n", "ok\nok\nok\nok\n2 0 0\npairs 1\n"},
		{"points 4\npair 3 3\npair 0 3\npoints 2\nshow\n", "ok\nok\nok\nok\n0 0\npairs 0\n"},
		{"points 4\nother\npairs\n", "ok\nok\n0:0 0:1 0:2 0:3 1:0 1:1 1:2 1:3 2:0 2:1 2:2 2:3 3:0 3:1 3:2 3:3\npairs 16\n"},
		{"power 0\nkinds\nways\nsizes\nclasses\n", "ok\nrsatfdjo\n6\n1 3\n1 2 4\npairs 3\n"},
		{"pair 0 1\npair 1 2\nstar\nways\nsizes\nbound 3\nbound 7\nturned\nbound 7\n", "ok\nok\nok\n1\n3 1\n1\n2\nok\n0\npairs 6\n"},
		{"rows 2 4 1\ncomp 2 4 1\nshow\nturned\nshow\n", "ok\nok\n4 1 2\nok\n2 4 1\npairs 3\n"},
		{"rows 2 0\nwhile 1\nshow\nends 1\nkept 1\n", "ok\nok\n2 2\n3\n3\npairs 2\n"},
		{"rows 1 3\nleast s\nstep\nclasses\nkernel\nshow\n", "ok\nok\nok\n3\nok\n3 3\npairs 4\n"},
	} {
		wantOutput(t, c.text, c.want)
	}
}

func TestEveryWordForEveryRelation(t *testing.T) {
	for a := range allRelations() {
		lines := []string{rowsOf(a)}
		for _, word := range wordsByModel {
			if word.rest != noRest {
				continue
			}
			if word.make == nil {
				lines = append(lines, word.name)
			} else {
				lines = append(lines, word.name, "show", rowsOf(a))
			}
		}
		wantModelOutput(t, linesOf(lines...))
	}
}

func TestEveryWordWithANumber(t *testing.T) {
	for a := range manyRelations() {
		for _, word := range wordsByModel {
			if word.rest != oneNumber {
				continue
			}
			lines := []string{rowsOf(a)}
			for number := range 1<<len(a) + 1 {
				lines = append(lines, word.name+" "+strconv.Itoa(number))
				if word.make != nil {
					lines = append(lines, "show", rowsOf(a))
				}
			}
			wantModelOutput(t, linesOf(lines...))
		}
	}
}

// One digit with a zero ahead of it is the same number; numbers that are too great for a relation fail.
func TestEveryWordWithEveryNumber(t *testing.T) {
	for _, a := range [][]int{{1}, {3, 2}, {2, 4, 0}, {7, 6, 4}, {15, 10, 12, 8}} {
		for _, word := range wordsByModel {
			if word.rest != oneNumber {
				continue
			}
			for number := range 100 {
				digits := strconv.Itoa(number)
				wantModelOutput(t, linesOf(rowsOf(a), word.name+" "+digits, "show"))
				if number < 10 {
					wantOutput(t, linesOf(rowsOf(a), word.name+" 0"+digits, "show"), impl.Execute(linesOf(rowsOf(a), word.name+" "+digits, "show")))
				}
			}
		}
	}
}

func TestPairsAndCuts(t *testing.T) {
	for a := range manyRelations() {
		for x := range len(a) + 1 {
			for _, word := range []string{"pair ", "cut "} {
				lines := []string{}
				for y := range len(a) + 1 {
					lines = append(lines, rowsOf(a), word+strconv.Itoa(x)+" "+strconv.Itoa(y), "show")
				}
				wantModelOutput(t, linesOf(lines...))
			}
		}
	}
}

func TestWordsWithAnotherRelation(t *testing.T) {
	for a, b := range somePairsOfRelations() {
		lines := []string{}
		for _, word := range []string{"comp ", "left ", "right "} {
			lines = append(lines, rowsOf(a), word+shownList(b), "show")
		}
		wantModelOutput(t, linesOf(lines...))
	}
}

// The list of a word must be a relation, and that of each word but rows on as many points as that of the script.
func TestWordsWithListsThatAreNoOtherRelation(t *testing.T) {
	lists := [][]int{{0}, {1}, {2}, {0, 0}, {3, 1}, {4, 0}, {0, 0, 0}, {7, 2, 5}, {0, 8, 0}, {99, 0, 0}, {0, 0, 0, 0}, {15, 8, 1, 9}, {0, 0, 0, 16}, {0, 0, 0, 0, 0}, {1, 1, 1, 1, 1, 1}}
	for n := 1; n <= pointsMax; n++ {
		a := chainOf(slices.Collect(renamings(n))[0])
		for _, list := range lists {
			for _, word := range []string{"rows ", "comp ", "left ", "right "} {
				want := "no"
				if impl.RelIn(list) && (word == "rows " || len(list) == n) {
					want = "ok"
				}
				if got := answerOf(t, a, word+shownList(list)); got != want {
					t.Fatalf("for %v, the answer to %s%v is %q", a, word, list, got)
				}
				wantModelOutput(t, linesOf(rowsOf(a), word+shownList(list), "show"))
			}
		}
	}
}

func TestLeastWithTextsOfKinds(t *testing.T) {
	texts := []string{"", "r", "s", "t", "rs", "sr", "rt", "tr", "st", "ts", "rst", "rts", "srt", "str", "trs", "tsr"}
	for n := 1; n <= pointsMax; n++ {
		for a := range someRelationsOn(n) {
			for _, text := range texts {
				if got := answerOf(t, a, "least "+text); got != "ok" {
					t.Fatalf("for %v, the answer to least with %q is %q", a, text, got)
				}
				wantModelOutput(t, linesOf(rowsOf(a), "least "+text, "show"))
			}
		}
	}
}

func TestTheRelationAtTheBeginning(t *testing.T) {
	for _, word := range wordsByModel {
		switch word.rest {
		case noRest:
			wantModelOutput(t, linesOf(word.name, "show"))
		case oneNumber, anyText:
			for _, rest := range []string{"0", "1", "7", "8", "", "rst"} {
				wantModelOutput(t, linesOf(word.name+" "+rest, "show"))
			}
		case twoNumbers, anyNumbers:
			for _, rest := range []string{"0 1", "2 2", "3 0", "2 4 0", "8 0 0", "1 1 1 1"} {
				wantModelOutput(t, linesOf(word.name+" "+rest, "show"))
			}
		}
	}
}

func TestManyLinesBehindEachOther(t *testing.T) {
	for text := range fewScripts(maxScript) {
		wantModelOutput(t, text)
	}
}

func TestTwoLinesBehindEachOther(t *testing.T) {
	for _, first := range fewLines() {
		for _, second := range fewLines() {
			for _, start := range []string{"pair 0 1", "rows 7 6 4", "rows 3 3"} {
				wantModelOutput(t, linesOf(start, first, second, "show"))
			}
		}
	}
}
