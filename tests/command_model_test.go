package tests

import (
	"iter"
	"regexp"
	"slices"
	"strconv"
	"strings"
	"testing"

	"loop.example/fewrelations/impl"
)

const maxScript = 600

// restForm is what is told behind a word.
type restForm int

const (
	noRest restForm = iota
	oneNumber
	twoNumbers
	anyNumbers
	anyText
)

// modelWord is a word with what it makes of a relation, or else what it tells of it.
type modelWord struct {
	name string
	rest restForm
	make func(a, k []int, text string) ([]int, bool)
	tell func(a, k []int) (string, bool)
}

var numbersAsTold = regexp.MustCompile(`^[0-9]{1,2}(?: [0-9]{1,2})*$`)

func shownList(list []int) string {
	texts := []string{}
	for _, x := range list {
		texts = append(texts, strconv.Itoa(x))
	}
	return shownText(strings.Join(texts, " "))
}

func shownPairs(pairs [][]int) string {
	texts := []string{}
	for _, p := range pairs {
		texts = append(texts, strconv.Itoa(p[0])+":"+strconv.Itoa(p[1]))
	}
	return shownText(strings.Join(texts, " "))
}

func shownText(text string) string {
	if text == "" {
		return "-"
	}
	return text
}

func makesAlone(name string, f func([]int) ([]int, bool)) modelWord {
	return modelWord{name: name, make: func(a, k []int, text string) ([]int, bool) { return f(a) }}
}

func makesWithList(name string, f func(a, b []int) ([]int, bool)) modelWord {
	return modelWord{name: name, rest: anyNumbers, make: func(a, k []int, text string) ([]int, bool) { return f(a, k) }}
}

// makesWithPair changes the bit of a pair of points.
func makesWithPair(name string, f func(row, bit int) int) modelWord {
	return modelWord{name: name, rest: twoNumbers, make: func(a, k []int, text string) ([]int, bool) {
		x, y := k[0], k[1]
		if x >= len(a) || y >= len(a) {
			return nil, false
		}
		b := slices.Clone(a)
		b[x] = f(b[x], 1<<y)
		return b, true
	}}
}

func tellsList(name string, f func([]int) ([]int, bool)) modelWord {
	return modelWord{name: name, tell: func(a, k []int) (string, bool) {
		list, ok := f(a)
		return shownList(list), ok
	}}
}

func tellsPairs(name string, f func([]int) ([][]int, bool)) modelWord {
	return modelWord{name: name, tell: func(a, k []int) (string, bool) {
		pairs, ok := f(a)
		return shownPairs(pairs), ok
	}}
}

func tellsTwo(name string, f func([]int) (int, int, bool)) modelWord {
	return modelWord{name: name, tell: func(a, k []int) (string, bool) {
		x, y, ok := f(a)
		return shownList([]int{x, y}), ok
	}}
}

func tellsOne(name string, f func([]int) (int, bool)) modelWord {
	return modelWord{name: name, tell: func(a, k []int) (string, bool) {
		x, ok := f(a)
		return shownList([]int{x}), ok
	}}
}

func tellsWhether(name string, f func([]int) bool) modelWord {
	return modelWord{name: name, tell: func(a, k []int) (string, bool) {
		if f(a) {
			return "yes", true
		}
		return "not", true
	}}
}

func tellsOfNumber(name string, f func([]int, int) (int, bool)) modelWord {
	return modelWord{name: name, rest: oneNumber, tell: func(a, k []int) (string, bool) {
		x, ok := f(a, k[0])
		return shownList([]int{x}), ok
	}}
}

// wordsByModel are made once, as many lines are looked up in them.
var wordsByModel = modelWords()

func modelWords() []modelWord {
	return []modelWord{
		{name: "points", rest: oneNumber, make: func(a, k []int, text string) ([]int, bool) { return make([]int, k[0]), k[0] >= 1 && k[0] <= pointsMax }},
		{name: "rows", rest: anyNumbers, make: func(a, k []int, text string) ([]int, bool) { return k, impl.RelIn(k) }},
		makesWithPair("pair", func(row, bit int) int { return row | bit }),
		makesWithPair("cut", func(row, bit int) int { return row &^ bit }),
		makesAlone("turned", impl.RelTurned),
		makesAlone("other", impl.RelOther),
		makesAlone("reach", impl.CompReach),
		makesAlone("star", impl.CompStar),
		makesAlone("step", impl.RectStep),
		makesAlone("kernel", impl.EquKernel),
		makesAlone("most", impl.RegularMost),
		{name: "power", rest: oneNumber, make: func(a, k []int, text string) ([]int, bool) { return impl.CompPower(a, k[0]) }},
		makesWithList("comp", impl.CompOf),
		makesWithList("left", impl.CompLeft),
		makesWithList("right", impl.CompRight),
		{name: "least", rest: anyText, make: func(a, k []int, text string) ([]int, bool) { return impl.KindLeast(a, text) }},
		{name: "while", rest: oneNumber, make: func(a, k []int, text string) ([]int, bool) { return impl.ProgWhile(k[0], a) }},
		tellsList("show", func(a []int) ([]int, bool) { return a, true }),
		tellsPairs("pairs", impl.RelPairs),
		{name: "kinds", tell: func(a, k []int) (string, bool) {
			kinds, ok := impl.KindAll(a)
			return shownText(kinds), ok
		}},
		tellsTwo("index", impl.CompIndex),
		tellsList("classes", impl.EquClasses),
		tellsOne("ways", impl.OrderWays),
		tellsTwo("sizes", impl.OrderSizes),
		tellsOfNumber("bound", impl.OrderBound),
		tellsPairs("all", impl.RectAll),
		tellsOne("rank", impl.RectRank),
		tellsPairs("blocks", impl.RectBlocks),
		tellsList("space", impl.SpaceOf),
		tellsWhether("even", impl.SpaceEven),
		tellsWhether("regular", impl.RegularIn),
		tellsOfNumber("after", impl.ProgAfter),
		tellsOfNumber("before", impl.ProgBefore),
		tellsOfNumber("surely", impl.ProgSurely),
		tellsOfNumber("kept", impl.ProgKept),
		tellsOfNumber("ends", endsOn),
	}
}

// numbersIn returns the numbers of a rest of a form, and whether it is as told.
func numbersIn(rest string, form restForm) ([]int, bool) {
	if form == noRest || form == anyText {
		return nil, true
	}
	if !numbersAsTold.MatchString(rest) {
		return nil, false
	}
	numbers := []int{}
	for _, digits := range strings.Split(rest, " ") {
		x, err := strconv.Atoi(digits)
		if err != nil {
			return nil, false
		}
		numbers = append(numbers, x)
	}
	return numbers, form == anyNumbers || form == oneNumber && len(numbers) == 1 || form == twoNumbers && len(numbers) == 2
}

// modelAnswer returns the relation behind a line, and the answer to the line.
func modelAnswer(a []int, line string) ([]int, string) {
	name, rest, hasRest := line, "", false
	if i := strings.IndexByte(line, ' '); i >= 0 {
		name, rest, hasRest = line[:i], line[i+1:], true
	}
	for _, word := range wordsByModel {
		if word.name != name || hasRest != (word.rest != noRest) {
			continue
		}
		numbers, ok := numbersIn(rest, word.rest)
		if !ok {
			return a, "no"
		}
		if word.tell != nil {
			if told, ok := word.tell(a, numbers); ok {
				return a, told
			}
			return a, "no"
		}
		if made, ok := word.make(a, numbers, rest); ok {
			return made, "ok"
		}
		return a, "no"
	}
	return a, "what"
}

// modelOutput is Execute by its definition, with the functions of the other chapters.
func modelOutput(text string) string {
	if len(text) > maxScript {
		return "too long\n"
	}
	a, output, line := []int{0, 0, 0}, "", ""
	for i := range len(text) {
		if text[i] != '\n' {
			line += text[i : i+1]
			continue
		}
		made, answer := modelAnswer(a, line)
		a, output, line = made, output+answer+"\n", ""
	}
	count := 0
	for x := range a {
		count += relatedTo(a, x)
	}
	return output + "pairs " + strconv.Itoa(count) + "\n"
}

func linesOf(lines ...string) string {
	return strings.Join(lines, "\n") + "\n"
}

func rowsOf(a []int) string {
	return "rows " + shownList(a)
}

func wantOutput(t *testing.T, text, want string) {
	t.Helper()
	if got := impl.Execute(text); got != want {
		t.Fatalf("Execute(%q) returned %q, and not %q", text, got, want)
	}
}

func wantModelOutput(t *testing.T, text string) {
	t.Helper()
	wantOutput(t, text, modelOutput(text))
}

// answersOf runs lines for a relation and returns the answers to them, without those to the line ahead that tells the relation and that behind all.
func answersOf(t *testing.T, a []int, lines ...string) []string {
	t.Helper()
	text := linesOf(append([]string{rowsOf(a)}, lines...)...)
	answers := strings.Split(impl.Execute(text), "\n")
	if len(answers) != len(lines)+3 || answers[0] != "ok" || !strings.HasPrefix(answers[len(lines)+1], "pairs ") {
		t.Fatalf("Execute(%q) returned %q", text, answers)
	}
	return answers[1 : len(lines)+1]
}

// answerOf is the last one of answersOf.
func answerOf(t *testing.T, a []int, lines ...string) string {
	t.Helper()
	return answersOf(t, a, lines...)[len(lines)-1]
}

// shownBehind returns the relation behind lines each of which makes one.
func shownBehind(t *testing.T, a []int, lines ...string) []int {
	t.Helper()
	answers := answersOf(t, a, append(slices.Clone(lines), "show")...)
	for i := range lines {
		if answers[i] != "ok" {
			t.Fatalf("for %v, the answers to %q are %q", a, lines, answers)
		}
	}
	return listIn(t, answers[len(lines)])
}

func listIn(t *testing.T, answer string) []int {
	t.Helper()
	list := []int{}
	if answer == "-" {
		return list
	}
	for _, digits := range strings.Split(answer, " ") {
		x, err := strconv.Atoi(digits)
		if err != nil {
			t.Fatalf("%q is no list", answer)
		}
		list = append(list, x)
	}
	return list
}

func numberIn(t *testing.T, answer string) int {
	t.Helper()
	x, err := strconv.Atoi(answer)
	if err != nil {
		t.Fatalf("%q is no number", answer)
	}
	return x
}

func pairsIn(t *testing.T, answer string) [][]int {
	t.Helper()
	pairs := [][]int{}
	if answer == "-" {
		return pairs
	}
	for _, text := range strings.Split(answer, " ") {
		first, second, ok := strings.Cut(text, ":")
		if !ok {
			t.Fatalf("%q are no pairs", answer)
		}
		pairs = append(pairs, []int{numberIn(t, first), numberIn(t, second)})
	}
	return pairs
}

// pairsBehind returns the number that the last line of the output tells.
func pairsBehind(t *testing.T, text string) int {
	t.Helper()
	lines := strings.Split(impl.Execute(text), "\n")
	if len(lines) < 2 || lines[len(lines)-1] != "" {
		t.Fatalf("Execute(%q) does not end with a newline", text)
	}
	count, ok := strings.CutPrefix(lines[len(lines)-2], "pairs ")
	if !ok {
		t.Fatalf("Execute(%q) ends with %q", text, lines[len(lines)-2])
	}
	return numberIn(t, count)
}

// manyRelations yields every relation on at most three points, and some of the others.
func manyRelations() iter.Seq[[]int] {
	return func(yield func([]int) bool) {
		for a := range allRelations() {
			if len(a) == pointsMax && codeOf(a)%5 != 0 {
				continue
			}
			if !yield(a) {
				return
			}
		}
	}
}

// fewPairsOfRelations yields every two relations on at most two points, and some two on more.
func fewPairsOfRelations() iter.Seq2[[]int, []int] {
	return func(yield func([]int, []int) bool) {
		place := 0
		for a, b := range somePairsOfRelations() {
			place++
			if len(a) > 2 && place%13 != 0 {
				continue
			}
			if !yield(a, b) {
				return
			}
		}
	}
}

// fewLines are lines of all words, as told and not.
func fewLines() []string {
	lines := []string{"", " ", "zzz", "points 2", "points 4", "points 0", "points 5", "rows 2 4 0", "rows 14 13 11 7", "rows 1 2 3 8", "rows 8", "rows", "rows x", "pair 0 0", "pair 1 2", "pair 3 1", "cut 1 2", "cut 00 01", "cut 4 0", "comp 2 4 1", "left 6 5 3", "right 2 4 0", "comp 1 2", "power 0", "power 2", "power 99", "least ", "least rst", "least c", "least rr", "while 3", "while 16", "bound 0", "bound 3", "bound 77", "after 3", "before 6", "surely 5", "kept 1", "ends 7", "ends 1 2"}
	for _, word := range wordsByModel {
		if word.rest == noRest {
			lines = append(lines, word.name, word.name+" ")
		} else {
			lines = append(lines, word.name, word.name+" 1")
		}
	}
	return lines
}

// fewScripts yields the empty script and, for each of the few lines, scripts of complete lines that begin with it and have at most so many bytes.
func fewScripts(most int) iter.Seq[string] {
	lines := fewLines()
	return func(yield func(string) bool) {
		if !yield("") {
			return
		}
		for first := range lines {
			text := ""
			for k := range lines {
				// Lines that stand together in the list are of the same word, and come apart here.
				next := lines[(first+31*k)%len(lines)] + "\n"
				if len(text)+len(next) > most {
					break
				}
				text += next
				if k%5 == 0 && !yield(text) {
					return
				}
			}
			if !yield(text) {
				return
			}
		}
	}
}

// filledTo returns a script of complete lines that has just so many bytes, by empty lines behind it.
func filledTo(text string, bytes int) string {
	return text + strings.Repeat("\n", bytes-len(text))
}
