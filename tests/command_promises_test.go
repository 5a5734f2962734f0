package tests

import (
	"slices"
	"strconv"
	"strings"
	"testing"

	"loop.example/fewrelations/impl"
)

// withoutLastLine returns an output up to its last line, and this line.
func withoutLastLine(t *testing.T, output string) (string, string) {
	t.Helper()
	if !strings.HasSuffix(output, "\n") {
		t.Fatalf("the output %q does not end with a newline", output)
	}
	start := strings.LastIndexByte(output[:len(output)-1], '\n') + 1
	return output[:start], output[start:]
}

func TestPromise77NoOutputIsEmptyAndWhatFollowsTheLastNewlineIsIgnored(t *testing.T) {
	wantOutput(t, "", "pairs 0\n")
	for text := range fewScripts(maxScript) {
		output := impl.Execute(text)
		if _, last := withoutLastLine(t, output); !strings.HasPrefix(last, "pairs ") {
			t.Fatalf("Execute(%q) returned %q", text, output)
		}
		for _, tail := range []string{"x", "show", "points 1", "other", "pair 0 0", " ", "\r", "\x00", "\xff", "rows 1", strings.Repeat("z", maxScript-len(text))} {
			if len(text)+len(tail) <= maxScript {
				wantOutput(t, text+tail, output)
			}
		}
		if impl.Execute(text+strings.Repeat("z", maxScript+1-len(text))) == "" {
			t.Fatalf("%q and too many bytes have an empty output", text)
		}
	}
}

func TestPromise78OtherLinesAndFailingOnesComeAheadOfTheLastLineWhichStays(t *testing.T) {
	const lines = "zzz\nrows x\n"
	for text := range fewScripts(maxScript - len(lines)) {
		for _, script := range []string{text, filledTo(text, maxScript-len(lines))} {
			ahead, last := withoutLastLine(t, impl.Execute(script))
			wantOutput(t, script+lines, ahead+"what\nno\n"+last)
		}
	}
	wantOutput(t, filledTo("", maxScript-len(lines)+1)+lines, "too long\n")
}

func TestPromise79ShowPrintsTheSameTwice(t *testing.T) {
	const lines = "show\nshow\n"
	for text := range fewScripts(maxScript - len(lines)) {
		for _, script := range []string{text, filledTo(text, maxScript-len(lines))} {
			ahead, last := withoutLastLine(t, impl.Execute(script))
			rest, ok := strings.CutPrefix(impl.Execute(script+lines), ahead)
			shown, _, _ := strings.Cut(rest, "\n")
			if !ok || rest != shown+"\n"+shown+"\n"+last {
				t.Fatalf("Execute(%q) returned %q and then %q", script+lines, ahead, rest)
			}
			if a := listIn(t, shown); !impl.RelIn(a) || "pairs "+strconv.Itoa(sizeOf(t, a))+"\n" != last {
				t.Fatalf("Execute(%q) shows %q behind all lines, and tells %q", script, shown, last)
			}
		}
	}
	wantOutput(t, filledTo("", maxScript-len(lines)+1)+lines, "too long\n")
}

func TestPromise80KindsOfEveryRelation(t *testing.T) {
	without := 0
	for a := range allRelations() {
		kinds := kindAllOf(t, a)
		if kinds == "" {
			kinds = "-"
			without++
		}
		wantOutput(t, rowsOf(a)+"\nkinds\n", "ok\n"+kinds+"\npairs "+strconv.Itoa(sizeOf(t, a))+"\n")
	}
	if without == 0 {
		t.Fatal("each relation is of some kind")
	}
}

func TestPromise81RankAndTurnedForEveryRelation(t *testing.T) {
	for a := range allRelations() {
		want := "ok\n" + strconv.Itoa(rankOf(t, a)) + "\nok\npairs " + strconv.Itoa(sizeOf(t, a)) + "\n"
		wantOutput(t, rowsOf(a)+"\nrank\nturned\n", want)
	}
}

// The promises 80 and 81 say nothing of lists that are no relation, of which the lines tell no kinds and no rank.
func TestRowsThatAreNoRelationLeaveTheOneAhead(t *testing.T) {
	lists := slices.DeleteFunc(noRelations(), func(a []int) bool { return len(a) == 0 || slices.Min(a) < 0 })
	for _, list := range lists {
		wantOutput(t, "pair 0 1\n"+rowsOf(list)+"\nkinds\nrank\nturned\nshow\n", "ok\nno\niatfj\n1\nok\n0 1 0\npairs 1\n")
	}
}
