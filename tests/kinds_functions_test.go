package tests

import (
	"fmt"
	"math/bits"
	"slices"
	"testing"

	"loop.example/fewrelations/impl"
)

func wantKinds(t *testing.T, a []int, want string) {
	t.Helper()
	if got, ok := impl.KindAll(a); !ok || got != want {
		t.Fatalf("KindAll(%v) returned %q, %v, and not %q, true", a, got, ok, want)
	}
}

func wantCount(t *testing.T, n int, kinds string, want int) {
	t.Helper()
	if got, ok := impl.KindCount(n, kinds); !ok || got != want {
		t.Fatalf("KindCount(%d, %q) returned %d, %v, and not %d, true", n, kinds, got, ok, want)
	}
}

func wantSplit(t *testing.T, a, turning, oneWay []int) {
	t.Helper()
	first, second, ok := impl.KindSplit(a)
	if !ok || !slices.Equal(first, turning) || !slices.Equal(second, oneWay) {
		t.Fatalf("KindSplit(%v) returned %v, %v, %v, and not %v, %v, true", a, first, second, ok, turning, oneWay)
	}
}

func TestKindAllOfFixedRelations(t *testing.T) {
	for _, c := range []struct {
		a    []int
		want string
	}{
		{[]int{0}, "isatfj"},
		{[]int{1}, "rsatcfdjo"},
		{[]int{0, 0}, "isatfj"},
		{[]int{1, 2}, "rsatfdjo"},
		{[]int{2, 0}, "iatfj"},
		{[]int{2, 1}, "isfdjo"},
		{[]int{3, 2}, "ratcdo"},
		{[]int{3, 3}, "rstcdo"},
		{[]int{2, 2}, "atfd"},
		{[]int{3, 0}, "atjo"},
		{[]int{1, 0}, "satfj"},
		{[]int{2, 3}, "sdo"},
		{[]int{2, 4, 0}, "iafj"},
		{[]int{6, 4, 0}, "iat"},
		{[]int{2, 4, 1}, "iafdjo"},
		{[]int{7, 6, 4}, "ratcdo"},
		{[]int{3, 6, 5}, "racdo"},
		{[]int{3, 7, 6}, "rsdo"},
		{[]int{1, 1, 1}, "atfd"},
		{[]int{0, 0, 0, 0}, "isatfj"},
		{[]int{1, 2, 4, 8}, "rsatfdjo"},
		{[]int{15, 15, 15, 15}, "rstcdo"},
		{[]int{2, 1, 8, 4}, "isfdjo"},
		{[]int{11, 1, 1, 0}, ""},
	} {
		wantKinds(t, c.a, c.want)
	}
}

func TestKindAllTellsEachKind(t *testing.T) {
	for a := range allRelations() {
		wantKinds(t, a, kindsOf(a))
	}
}

func TestKindInForEachLetterAlone(t *testing.T) {
	for a := range allRelations() {
		for i := range len(kindLetters) {
			if kind, want := kindLetters[i:i+1], isKind(a, kindLetters[i]); impl.KindIn(a, kind) != want {
				t.Fatalf("KindIn(%v, %q) is not %v", a, kind, want)
			}
		}
	}
}

func TestKindInForTextsInAnyOrder(t *testing.T) {
	for n := 1; n <= pointsMax; n++ {
		for a := range someRelationsOn(n) {
			all := kindsOf(a)
			for kinds := range partsOf(kindLetters) {
				want := hasLetters(all, kinds)
				if impl.KindIn(a, kinds) != want || impl.KindIn(a, reversed(kinds)) != want {
					t.Fatalf("KindIn of %v and %q, or this reversed, is not %v", a, kinds, want)
				}
			}
		}
	}
}

func TestKindInForTheEmptyTextAndForAllLetters(t *testing.T) {
	for a := range allRelations() {
		if !impl.KindIn(a, "") {
			t.Fatalf("KindIn(%v, no kinds) does not hold", a)
		}
		if impl.KindIn(a, kindLetters) {
			t.Fatalf("KindIn(%v, all kinds) holds", a)
		}
	}
	if !impl.KindIn([]int{1}, "ojdfctasr") {
		t.Error("the point that is related to itself is not of all kinds but one")
	}
}

func TestKindCountOfFixedTexts(t *testing.T) {
	for _, c := range []struct {
		kinds string
		want  []int
	}{
		{"", []int{2, 16, 512}},
		{"r", []int{1, 4, 64}},
		{"i", []int{1, 4, 64}},
		{"s", []int{2, 8, 64}},
		{"a", []int{2, 12, 216}},
		{"t", []int{2, 13, 171}},
		{"c", []int{1, 3, 27}},
		{"f", []int{2, 9, 64}},
		{"d", []int{1, 9, 343}},
		{"j", []int{2, 9, 64}},
		{"o", []int{1, 9, 343}},
		{"ri", []int{0, 0, 0}},
		{"rt", []int{1, 4, 29}},
		{"st", []int{2, 5, 15}},
		{"rst", []int{1, 2, 5}},
		{"tsr", []int{1, 2, 5}},
		{"rat", []int{1, 3, 19}},
		{"iat", []int{1, 3, 19}},
		{"ratc", []int{1, 2, 6}},
		{"fj", []int{2, 7, 34}},
		{"do", []int{1, 7, 265}},
		{"fd", []int{1, 4, 27}},
		{"jo", []int{1, 4, 27}},
		{"fdjo", []int{1, 2, 6}},
		{"ojdf", []int{1, 2, 6}},
		{"rsatcfdjo", []int{1, 0, 0}},
		{kindLetters, []int{0, 0, 0}},
	} {
		for i, want := range c.want {
			wantCount(t, i+1, c.kinds, want)
		}
	}
}

func TestKindCountCountsForEachText(t *testing.T) {
	for n := 1; n <= 3; n++ {
		found := []string{}
		for a := range relationsOn(n) {
			found = append(found, kindsOf(a))
		}
		for kinds := range partsOf(kindLetters) {
			want := 0
			for _, all := range found {
				if hasLetters(all, kinds) {
					want++
				}
			}
			wantCount(t, n, kinds, want)
			wantCount(t, n, reversed(kinds), want)
		}
	}
}

func TestKindLeastOfFixedRelations(t *testing.T) {
	for _, c := range []struct {
		a     []int
		kinds string
		want  []int
	}{
		{[]int{0}, "", []int{0}},
		{[]int{0}, "r", []int{1}},
		{[]int{0}, "st", []int{0}},
		{[]int{1}, "rst", []int{1}},
		{[]int{2, 0}, "", []int{2, 0}},
		{[]int{2, 0}, "s", []int{2, 1}},
		{[]int{2, 0}, "t", []int{2, 0}},
		{[]int{2, 0}, "st", []int{3, 3}},
		{[]int{2, 0}, "ts", []int{3, 3}},
		{[]int{2, 1}, "t", []int{3, 3}},
		{[]int{2, 4, 0}, "r", []int{3, 6, 4}},
		{[]int{2, 4, 0}, "s", []int{2, 5, 2}},
		{[]int{2, 4, 0}, "t", []int{6, 4, 0}},
		{[]int{2, 4, 0}, "rs", []int{3, 7, 6}},
		{[]int{2, 4, 0}, "rt", []int{7, 6, 4}},
		{[]int{2, 4, 0}, "tr", []int{7, 6, 4}},
		{[]int{2, 2, 0}, "st", []int{3, 3, 0}},
		{[]int{2, 2, 0}, "tsr", []int{3, 3, 4}},
		{[]int{2, 0, 2}, "ts", []int{7, 7, 7}},
		{[]int{0, 0, 0, 0}, "rst", []int{1, 2, 4, 8}},
		{[]int{2, 0, 8, 0}, "tsr", []int{3, 3, 12, 12}},
		{[]int{2, 4, 8, 0}, "t", []int{14, 12, 8, 0}},
		{[]int{15, 15, 15, 15}, "str", []int{15, 15, 15, 15}},
	} {
		got, ok := impl.KindLeast(c.a, c.kinds)
		wantList(t, fmt.Sprintf("KindLeast(%v, %q)", c.a, c.kinds), got, ok, c.want)
	}
}

// leastAmong returns the one of the relations of some kinds above a that is below all others.
func leastAmong(a []int, above [][]int) []int {
	for _, least := range above {
		if isBelow(a, least) && !slices.ContainsFunc(above, func(x []int) bool { return isBelow(a, x) && !isBelow(least, x) }) {
			return least
		}
	}
	return nil
}

// greatestAmong returns the one of the relations of some kinds below a that all others are below.
func greatestAmong(a []int, below [][]int) []int {
	for _, greatest := range below {
		if isBelow(greatest, a) && !slices.ContainsFunc(below, func(x []int) bool { return isBelow(x, a) && !isBelow(x, greatest) }) {
			return greatest
		}
	}
	return nil
}

func relationsOfKinds(n int, kinds string) [][]int {
	found := [][]int{}
	for a := range relationsOn(n) {
		if hasLetters(kindsOf(a), kinds) {
			found = append(found, a)
		}
	}
	return found
}

func TestKindLeastAndKindMostAreSuchAmongAllRelations(t *testing.T) {
	for n := 1; n <= 3; n++ {
		for kinds := range partsOf("rst") {
			above := relationsOfKinds(n, kinds)
			for a := range relationsOn(n) {
				got, ok := impl.KindLeast(a, kinds)
				wantList(t, fmt.Sprintf("KindLeast(%v, %q)", a, kinds), got, ok, leastAmong(a, above))
			}
		}
		for kinds := range partsOf("is") {
			below := relationsOfKinds(n, kinds)
			for a := range relationsOn(n) {
				got, ok := impl.KindMost(a, kinds)
				wantList(t, fmt.Sprintf("KindMost(%v, %q)", a, kinds), got, ok, greatestAmong(a, below))
			}
		}
	}
}

func TestKindLeastAndKindMostForTextsInAnyOrder(t *testing.T) {
	for n := 1; n <= pointsMax; n++ {
		for a := range someRelationsOn(n) {
			for _, kinds := range textsOf("rst") {
				got, ok := impl.KindLeast(a, kinds)
				wantList(t, fmt.Sprintf("KindLeast(%v, %q)", a, kinds), got, ok, leastOf(a, kinds))
			}
		}
	}
	for a := range allRelations() {
		for _, kinds := range []string{"rst", "ts", "t"} {
			got, ok := impl.KindLeast(a, kinds)
			wantList(t, fmt.Sprintf("KindLeast(%v, %q)", a, kinds), got, ok, leastOf(a, kinds))
		}
		for _, kinds := range textsOf("is") {
			got, ok := impl.KindMost(a, kinds)
			wantList(t, fmt.Sprintf("KindMost(%v, %q)", a, kinds), got, ok, mostOf(a, kinds))
		}
	}
}

func TestKindMostOfFixedRelations(t *testing.T) {
	for _, c := range []struct {
		a     []int
		kinds string
		want  []int
	}{
		{[]int{0}, "", []int{0}},
		{[]int{0}, "is", []int{0}},
		{[]int{1}, "", []int{1}},
		{[]int{1}, "i", []int{0}},
		{[]int{1}, "s", []int{1}},
		{[]int{3, 2}, "", []int{3, 2}},
		{[]int{3, 2}, "i", []int{2, 0}},
		{[]int{3, 2}, "s", []int{1, 2}},
		{[]int{3, 2}, "is", []int{0, 0}},
		{[]int{3, 1}, "si", []int{2, 1}},
		{[]int{6, 5, 0}, "s", []int{2, 1, 0}},
		{[]int{0, 0, 0, 0}, "si", []int{0, 0, 0, 0}},
		{[]int{15, 15, 15, 15}, "s", []int{15, 15, 15, 15}},
		{[]int{15, 15, 15, 15}, "si", []int{14, 13, 11, 7}},
	} {
		got, ok := impl.KindMost(c.a, c.kinds)
		wantList(t, fmt.Sprintf("KindMost(%v, %q)", c.a, c.kinds), got, ok, c.want)
	}
}

func TestKindMapAndKindOfMapOfFixedLists(t *testing.T) {
	for _, c := range []struct{ a, p []int }{
		{[]int{1}, []int{0}},
		{[]int{1, 1}, []int{0, 0}},
		{[]int{2, 1}, []int{1, 0}},
		{[]int{1, 2, 4}, []int{0, 1, 2}},
		{[]int{4, 4, 4}, []int{2, 2, 2}},
		{[]int{2, 4, 1}, []int{1, 2, 0}},
		{[]int{1, 1, 1, 1}, []int{0, 0, 0, 0}},
		{[]int{8, 8, 8, 8}, []int{3, 3, 3, 3}},
		{[]int{2, 1, 8, 1}, []int{1, 0, 3, 0}},
	} {
		p, ok := impl.KindMap(c.a)
		wantList(t, fmt.Sprintf("KindMap(%v)", c.a), p, ok, c.p)
		a, ok := impl.KindOfMap(c.p)
		wantList(t, fmt.Sprintf("KindOfMap(%v)", c.p), a, ok, c.a)
	}
}

func TestKindMapSucceedsForMapsAlone(t *testing.T) {
	maps := 0
	for a := range allRelations() {
		got, ok := impl.KindMap(a)
		if !isKind(a, 'f') || !isKind(a, 'd') {
			wantNoList(t, fmt.Sprintf("KindMap(%v)", a), got, ok)
			continue
		}
		maps++
		want := []int{}
		for x := range a {
			want = append(want, bits.TrailingZeros(uint(a[x])))
		}
		wantList(t, fmt.Sprintf("KindMap(%v)", a), got, ok, want)
	}
	if maps != 1+4+27+256 {
		t.Fatalf("%d maps were seen", maps)
	}
}

func TestKindOfMapOfAllLists(t *testing.T) {
	for n := 1; n <= pointsMax; n++ {
		for p := range mapsOf(n) {
			got, ok := impl.KindOfMap(p)
			wantList(t, fmt.Sprintf("KindOfMap(%v)", p), got, ok, relationOfMap(p))
		}
	}
}

func TestKindSplit(t *testing.T) {
	wantSplit(t, []int{0}, []int{0}, []int{0})
	wantSplit(t, []int{1}, []int{0}, []int{0})
	wantSplit(t, []int{3, 2}, []int{0, 0}, []int{2, 0})
	wantSplit(t, []int{3, 3}, []int{2, 1}, []int{0, 0})
	wantSplit(t, []int{7, 5, 0}, []int{2, 1, 0}, []int{4, 4, 0})
	wantSplit(t, []int{0, 0, 0, 0}, []int{0, 0, 0, 0}, []int{0, 0, 0, 0})
	wantSplit(t, []int{1, 2, 4, 8}, []int{0, 0, 0, 0}, []int{0, 0, 0, 0})
	wantSplit(t, []int{15, 15, 15, 15}, []int{14, 13, 11, 7}, []int{0, 0, 0, 0})
	wantSplit(t, []int{15, 14, 12, 8}, []int{0, 0, 0, 0}, []int{14, 12, 8, 0})
	for a := range allRelations() {
		n := len(a)
		turning := relationWhere(n, func(x, y int) bool { return x != y && relates(a, x, y) && relates(a, y, x) })
		oneWay := relationWhere(n, func(x, y int) bool { return x != y && relates(a, x, y) && !relates(a, y, x) })
		wantSplit(t, a, turning, oneWay)
	}
}
