package tests

import (
	"math/rand/v2"
	"regexp"
	"slices"
	"strconv"
	"strings"
	"testing"

	"loop.example/fewrelations/impl"
)

// wantUnchanged runs a line that is answered by a text and leaves the relation.
func wantUnchanged(t *testing.T, a []int, line, answer string) {
	t.Helper()
	got := answersOf(t, a, "show", line, "show")
	if want := []string{shownList(a), answer, shownList(a)}; !slices.Equal(got, want) {
		t.Fatalf("for %v, show, %q and show are answered by %q, and not by %q", a, line, got, want)
	}
}

// startRelations are relations of 1 to 4 points, orders and equivalences among them.
func startRelations() [][]int {
	return [][]int{{0}, {1}, {2, 1}, {3, 3}, {2, 4, 0}, {7, 6, 4}, {5, 2, 5}, {6, 3, 0, 1}, {15, 10, 12, 8}}
}

func TestEmptyScript(t *testing.T) {
	wantOutput(t, "", "pairs 0\n")
}

func TestEmptyLines(t *testing.T) {
	wantOutput(t, "\n", "what\npairs 0\n")
	wantOutput(t, "\n\n\n", "what\nwhat\nwhat\npairs 0\n")
	wantOutput(t, "\npair 0 1\n\nshow\n\n", "what\nok\nwhat\n2 0 0\nwhat\npairs 1\n")
	for _, a := range startRelations() {
		wantUnchanged(t, a, "", "what")
	}
}

func TestALastLineWithoutANewlineIsIgnored(t *testing.T) {
	wantOutput(t, "show", "pairs 0\n")
	wantOutput(t, " ", "pairs 0\n")
	wantOutput(t, "zzz", "pairs 0\n")
	wantOutput(t, "pair 0 1", "pairs 0\n")
	wantOutput(t, "pair 0 1\npair 0 2", "ok\npairs 1\n")
	wantOutput(t, "pair 0 1\npoints 1", "ok\npairs 1\n")
	wantOutput(t, "\npair 0 1\rpair 0 2", "what\npairs 0\n")
}

func TestScriptsOfMaxScriptBytesAndOfMore(t *testing.T) {
	if impl.MaxScript != maxScript {
		t.Fatalf("MaxScript is %d", impl.MaxScript)
	}
	const tooLong = "too long\n"
	for _, c := range []struct{ text, want string }{
		{strings.Repeat("\n", maxScript), strings.Repeat("what\n", maxScript) + "pairs 0\n"},
		{strings.Repeat("x", maxScript), "pairs 0\n"},
		{strings.Repeat("x", maxScript-1) + "\n", "what\npairs 0\n"},
		{"pair 0 1\n" + strings.Repeat("x", maxScript-9), "ok\npairs 1\n"},
		{filledTo("pair 2 2\n", maxScript), "ok\n" + strings.Repeat("what\n", maxScript-9) + "pairs 1\n"},
		{strings.Repeat("\xff", maxScript-1) + "\n", "what\npairs 0\n"},
		// The number of bytes counts, and not that of letters.
		{strings.Repeat("é", maxScript/2), "pairs 0\n"},
	} {
		wantOutput(t, c.text, c.want)
		for _, more := range []string{"\n", "x", " ", "\x00", "\xff", "\nshow\n", strings.Repeat("\n", maxScript)} {
			wantOutput(t, c.text+more, tooLong)
			wantOutput(t, more+c.text, tooLong)
		}
	}
	wantOutput(t, strings.Repeat("é", maxScript/2+1), tooLong)
	wantOutput(t, strings.Repeat("pair 0 1\n", 1<<16), tooLong)
}

func TestEveryWordWithAndWithoutARest(t *testing.T) {
	for _, a := range startRelations() {
		for _, word := range wordsByModel {
			if word.rest == noRest {
				if got := answerOf(t, a, word.name); got == "what" {
					t.Fatalf("for %v, the answer to %s is %q", a, word.name, got)
				}
				for _, rest := range []string{"", " ", "0", "1", "0 1", "x", "r", word.name} {
					wantUnchanged(t, a, word.name+" "+rest, "what")
				}
				continue
			}
			wantUnchanged(t, a, word.name, "what")
			for _, rest := range []string{"", " ", "0", "1", "0 1", "x", "r", word.name} {
				if got := answerOf(t, a, word.name+" "+rest); got == "what" {
					t.Fatalf("for %v, the answer to %s with the rest %q is %q", a, word.name, rest, got)
				}
			}
		}
	}
}

func TestAnEmptyRest(t *testing.T) {
	for _, a := range startRelations() {
		for _, word := range wordsByModel {
			switch word.rest {
			case oneNumber, twoNumbers, anyNumbers:
				wantUnchanged(t, a, word.name+" ", "no")
			case anyText:
				wantUnchanged(t, a, word.name+" ", "ok")
			}
		}
	}
}

// Many of the rests would be as told, for some word and relation, but for a byte too many or another space.
func TestRestsThatAreNoNumbers(t *testing.T) {
	rests := []string{
		" ", "  ", " 1", "1 ", " 0 1", "0 1 ", "0  1", "0   1", " 2 4 0", "2 4 0 ", "2  4 0", "2 4  0",
		"100", "001", "000", "0 001", "000 1", "2 4 000", "002 4 0", "0000000001", "18446744073709551617", "4294967297",
		"-1", "+1", "-0", "+0", "0 -1", "0 +1", "2 4 -0", "1.", "1.0", ".1", "1e0", "0x1", "x1", "1x", "1_", "_1", "1,", "0,1", "0:1",
		"x", "0 x", "x 0", "2 4 x", "one", "1 one", "0 1 r", "rst", "-", "1-", "0\t1", "\t1", "1\t", "1\r", "1\v", "1\x00", "\x001", "/", "9:", "1/", ":1",
		"\u0661", "\uff11", "1\u00a0", "\u20031", "\u00b2", "\xb1", "1\xff", "\xff",
	}
	for _, a := range startRelations() {
		for _, word := range wordsByModel {
			if word.rest == noRest || word.rest == anyText {
				continue
			}
			for _, rest := range rests {
				wantUnchanged(t, a, word.name+" "+rest, "no")
			}
		}
	}
}

func TestAsManyNumbersAsTold(t *testing.T) {
	for _, a := range startRelations() {
		for _, word := range wordsByModel {
			switch word.rest {
			case oneNumber:
				for _, rest := range []string{"0 0", "1 1", "1 2 3", "00 01", "0 0 0 0 0 0 0 0 0"} {
					wantUnchanged(t, a, word.name+" "+rest, "no")
				}
			case twoNumbers:
				for _, rest := range []string{"0", "00", "0 0 0", "0 0 0 0", "00 00 00"} {
					wantUnchanged(t, a, word.name+" "+rest, "no")
				}
			}
		}
	}
}

func TestOneAndTwoDigits(t *testing.T) {
	for _, c := range []struct{ one, two string }{
		{"points 1", "points 01"},
		{"rows 2 4 0", "rows 02 04 00"},
		{"rows 2 4 0", "rows 02 4 00"},
		{"pair 0 2", "pair 00 02"},
		{"pair 0 2", "pair 0 02"},
		{"cut 0 1", "cut 00 1"},
		{"power 2", "power 02"},
		{"comp 2 4 1", "comp 02 4 01"},
		{"left 4 4 1", "left 04 04 1"},
		{"right 4 4 1", "right 4 04 1"},
		{"while 3", "while 03"},
		{"bound 3", "bound 03"},
		{"bound 0", "bound 00"},
		{"after 3", "after 03"},
		{"before 6", "before 06"},
		{"surely 0", "surely 00"},
		{"kept 2", "kept 02"},
		{"ends 7", "ends 07"},
	} {
		for _, a := range [][]int{{2, 4, 0}, {7, 6, 4}, {2, 4, 1}} {
			one, two := answersOf(t, a, c.one, "show"), answersOf(t, a, c.two, "show")
			if !slices.Equal(one, two) || one[0] == "what" {
				t.Fatalf("for %v, %s is answered by %q, and %s by %q", a, c.one, one, c.two, two)
			}
		}
	}
	wantOutput(t, "rows 10 12 15 09\nshow\nafter 12\nkept 15\n", "ok\n10 12 15 9\n15\n15\npairs 10\n")
}

func TestWordsThatAreNone(t *testing.T) {
	lines := []string{"x", "zzz", "0", "1 2", "-", "ok", "no", "what", "too long", "pairs 0", " show", "  show", "\tshow", "show\t", "show\r", "\rshow", "show\x00", "\x00show", "show;", "show,", "#", "\xff", "é", "points\t3", "rows\t1", "least\tr", "points-3", "\ufeffshow", "show\u00a0", "ｓhow", " ", "  ", " points 3", "solve 1", "either 1 2", "both 1 2", "most i", "named 0", "far 0 1", "size", "triple 1 2", "largest 1", "meet 0 1", "polar 0", "closed 1", "join 1", "quit", "help"}
	for _, word := range wordsByModel {
		capital := strings.ToUpper(word.name[:1]) + word.name[1:]
		for _, name := range []string{strings.ToUpper(word.name), capital, word.name + "s", word.name + word.name, "x" + word.name, word.name[1:], word.name[:len(word.name)-1], word.name + "\t", " " + word.name} {
			lines = append(lines, name, name+" ", name+" 1", name+" 0 1", name+" r")
		}
	}
	known := map[string]bool{}
	for _, word := range wordsByModel {
		known[word.name] = true
	}
	for _, a := range startRelations() {
		for _, line := range lines {
			// A word that is made so may be another one of the chapter.
			if name, _, _ := strings.Cut(line, " "); known[name] && line != "pairs 0" && line != "most i" {
				continue
			}
			wantUnchanged(t, a, line, "what")
		}
	}
}

func TestNumbersThatAreNoneOfTheRelation(t *testing.T) {
	for _, a := range startRelations() {
		n := len(a)
		for _, points := range []string{"0", "00", "5", "05", "10", "99"} {
			wantUnchanged(t, a, "points "+points, "no")
		}
		for _, point := range []int{n, n + 1, 10, 99} {
			for _, word := range []string{"pair ", "cut "} {
				wantUnchanged(t, a, word+strconv.Itoa(point)+" 0", "no")
				wantUnchanged(t, a, word+"0 "+strconv.Itoa(point), "no")
				wantUnchanged(t, a, word+strconv.Itoa(point)+" "+strconv.Itoa(point), "no")
			}
		}
		for _, set := range []int{1 << n, 1<<n + 1, 64, 99} {
			for _, word := range []string{"while ", "bound ", "after ", "before ", "surely ", "kept ", "ends "} {
				wantUnchanged(t, a, word+strconv.Itoa(set), "no")
			}
		}
		for _, list := range noRelations() {
			line := shownList(list)
			if strings.Contains(line, "-") || !numbersAsTold.MatchString(line) {
				continue
			}
			for _, word := range []string{"rows ", "comp ", "left ", "right "} {
				wantUnchanged(t, a, word+line, "no")
			}
		}
	}
}

func TestTextsThatAreNoKindsOfLeast(t *testing.T) {
	for _, a := range startRelations() {
		for _, text := range []string{" ", "  ", "r ", " r", "r s", "rr", "rsr", "sts", "rstt", "rstrst", "x", "rx", "R", "RST", "i", "a", "c", "f", "d", "j", "o", "ri", "rat", "risatcfdjo", "-", "0", "r,s", "rs\t", "rs\r", "r\x00", "\xf2", "ŕ", "least", "rst "} {
			wantUnchanged(t, a, "least "+text, "no")
		}
	}
}

func TestRelationsThatAreNotAsTold(t *testing.T) {
	for a := range manyRelations() {
		if !isEquivalence(a) {
			wantUnchanged(t, a, "classes", "no")
		}
		if !isOrder(a) {
			wantUnchanged(t, a, "ways", "no")
			wantUnchanged(t, a, "sizes", "no")
			wantUnchanged(t, a, "bound 0", "no")
		}
		if !isStepped(a) {
			wantUnchanged(t, a, "blocks", "no")
		}
	}
}

func TestWhatFailsAndWhatIsNoWordChangesNothing(t *testing.T) {
	failed := 0
	for _, a := range startRelations() {
		for _, line := range fewLines() {
			answer := answerOf(t, a, line)
			if answer == "no" || answer == "what" {
				failed++
				wantUnchanged(t, a, line, answer)
			}
		}
	}
	if failed == 0 {
		t.Fatal("no line fails")
	}
}

// outputForm is an output as the chapter tells it: an answer for each line, and the number of pairs behind all.
var outputForm = regexp.MustCompile(`^(?:(?:ok|no|what|yes|not|-|r?i?s?a?t?c?f?d?j?o?|[0-9]{1,2}(?: [0-9]{1,2})*|[0-9]{1,2}:[0-9]{1,2}(?: [0-9]{1,2}:[0-9]{1,2})*)\n)*pairs [0-9]{1,2}\n$`)

func wantAnyOutput(t *testing.T, text string) {
	t.Helper()
	wantModelOutput(t, text)
	got := impl.Execute(text)
	if len(text) > maxScript {
		return
	}
	if !outputForm.MatchString(got) || strings.Contains("\n"+got, "\n\n") || strings.Count(got, "\n") != strings.Count(text, "\n")+1 {
		t.Fatalf("Execute(%q) returned %q", text, got)
	}
}

func TestEveryByteInALine(t *testing.T) {
	for b := range 256 {
		one := string([]byte{byte(b)})
		for _, line := range []string{one, one + one, "show" + one, one + "show", "sh" + one + "ow", "power " + one, "power 1" + one, "power " + one + "1", "rows 1 2" + one + "4", "rows" + one + "1", "pair 0" + one + "1", "least " + one, "least r" + one, "least" + one + "r", "points" + one + "2"} {
			wantAnyOutput(t, line)
			wantAnyOutput(t, "pair 0 1\n"+line+"\nshow\n")
		}
	}
}

// anyScript puts together words, numbers and bytes as a source with a fixed beginning tells, so that each run has the same scripts.
func anyScript(source *rand.Rand, most int) string {
	pieces := []string{"\n", "\n", "\n", " ", " ", " ", "  ", "0", "1", "2", "3", "4", "7", "15", "99", "00", "100", "r", "s", "t", "x", "-", "\t", "\r", "\x00", "\xff", "é"}
	lines := fewLines()
	text := ""
	for len(text) < most {
		switch source.IntN(6) {
		case 0:
			text += pieces[source.IntN(len(pieces))]
		case 1:
			text += wordsByModel[source.IntN(len(wordsByModel))].name
		case 2:
			text += string([]byte{byte(source.IntN(256))})
		case 3:
			text += wordsByModel[source.IntN(len(wordsByModel))].name + " " + pieces[source.IntN(len(pieces))] + "\n"
		default:
			text += lines[source.IntN(len(lines))] + "\n"
		}
	}
	return text
}

func TestScriptsOfAnyBytes(t *testing.T) {
	source := rand.New(rand.NewPCG(1, 2))
	for range 2000 {
		wantAnyOutput(t, anyScript(source, source.IntN(maxScript+10)))
	}
	for range 500 {
		bytes := make([]byte, source.IntN(maxScript+10))
		for i := range bytes {
			bytes[i] = byte(source.IntN(256))
			if source.IntN(8) == 0 {
				bytes[i] = '\n'
			}
		}
		wantAnyOutput(t, string(bytes))
	}
}

func TestScriptsCutOffAtEveryByte(t *testing.T) {
	whole := "points 4\nrows 2 4 8 0\npair 03 00\ncut 0 1\nleast rst\nclasses\nwhile 5\npower 12\nshow\n \nzzz\nafter 3\nbound 0\n"
	for end := range len(whole) + 1 {
		wantAnyOutput(t, whole[:end])
		wantAnyOutput(t, whole[:end]+"\n")
		wantAnyOutput(t, whole[end:])
	}
}
