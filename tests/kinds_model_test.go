package tests

import (
	"iter"
	"slices"
	"strings"
)

// kindLetters has the letters of all kinds in the order of the chapter.
const kindLetters = "risatcfdjo"

// holdsForPoints reports whether something holds for each list of three points.
func holdsForPoints(n int, holds func(x, y, z int) bool) bool {
	for x := range n {
		for y := range n {
			for z := range n {
				if !holds(x, y, z) {
					return false
				}
			}
		}
	}
	return true
}

// relatedTo counts the points to which x is related.
func relatedTo(a []int, x int) int {
	count := 0
	for y := range a {
		if relates(a, x, y) {
			count++
		}
	}
	return count
}

// relatedFrom counts the points that are related to y.
func relatedFrom(a []int, y int) int {
	count := 0
	for x := range a {
		if relates(a, x, y) {
			count++
		}
	}
	return count
}

// isKind is each kind by its definition, point by point.
func isKind(a []int, letter byte) bool {
	return holdsForPoints(len(a), func(x, y, z int) bool {
		switch letter {
		case 'r':
			return relates(a, x, x)
		case 'i':
			return !relates(a, x, x)
		case 's':
			return !relates(a, x, y) || relates(a, y, x)
		case 'a':
			return x == y || !relates(a, x, y) || !relates(a, y, x)
		case 't':
			return !relates(a, x, y) || !relates(a, y, z) || relates(a, x, z)
		case 'c':
			return relates(a, x, y) || relates(a, y, x)
		case 'f':
			return relatedTo(a, x) <= 1
		case 'd':
			return relatedTo(a, x) >= 1
		case 'j':
			return relatedFrom(a, x) <= 1
		case 'o':
			return relatedFrom(a, x) >= 1
		}
		return false
	})
}

// kindsOf returns the text of all kinds of a relation.
func kindsOf(a []int) string {
	kinds := ""
	for i := range len(kindLetters) {
		if isKind(a, kindLetters[i]) {
			kinds += kindLetters[i : i+1]
		}
	}
	return kinds
}

// hasLetters reports whether a text has all letters of another one.
func hasLetters(text, letters string) bool {
	for i := range len(letters) {
		if strings.IndexByte(text, letters[i]) < 0 {
			return false
		}
	}
	return true
}

// partsOf yields the texts with some of some letters, in their order, the empty one first.
func partsOf(letters string) iter.Seq[string] {
	return func(yield func(string) bool) {
		for code := range 1 << len(letters) {
			part := ""
			for i := range len(letters) {
				if code>>i&1 == 1 {
					part += letters[i : i+1]
				}
			}
			if !yield(part) {
				return
			}
		}
	}
}

// ordersOf returns the letters of a text in all orders.
func ordersOf(letters string) []string {
	if letters == "" {
		return []string{""}
	}
	orders := []string{}
	for i := range len(letters) {
		for _, rest := range ordersOf(letters[:i] + letters[i+1:]) {
			orders = append(orders, letters[i:i+1]+rest)
		}
	}
	return orders
}

// textsOf returns the texts with some of some letters, in all orders.
func textsOf(letters string) []string {
	texts := []string{}
	for part := range partsOf(letters) {
		texts = append(texts, ordersOf(part)...)
	}
	return texts
}

func reversed(text string) string {
	letters := []byte(text)
	slices.Reverse(letters)
	return string(letters)
}

// isForced reports whether a relation of the kinds r, s or t that has all pairs of a has this pair, too, by just one of these kinds.
func isForced(a []int, kinds string, x, y int) bool {
	if hasLetters(kinds, "r") && x == y {
		return true
	}
	if hasLetters(kinds, "s") && relates(a, y, x) {
		return true
	}
	for z := range a {
		if hasLetters(kinds, "t") && relates(a, x, z) && relates(a, z, y) {
			return true
		}
	}
	return false
}

// leastOf puts forced pairs to a relation, one after the other, until there is none.
func leastOf(a []int, kinds string) []int {
	least := slices.Clone(a)
	for before := []int(nil); !slices.Equal(before, least); {
		before = slices.Clone(least)
		for x := range least {
			for y := range least {
				if isForced(least, kinds, x, y) {
					least[x] |= 1 << y
				}
			}
		}
	}
	return least
}

// mostOf has the pairs of a relation that it may keep for the kinds i and s.
func mostOf(a []int, kinds string) []int {
	return relationWhere(len(a), func(x, y int) bool {
		isLoop := hasLetters(kinds, "i") && x == y
		isOneWay := hasLetters(kinds, "s") && !relates(a, y, x)
		return relates(a, x, y) && !isLoop && !isOneWay
	})
}

// mapsOf yields every list of n points, each one as new memory.
func mapsOf(n int) iter.Seq[[]int] {
	return func(yield func([]int) bool) {
		count := 1
		for range n {
			count *= n
		}
		for code := range count {
			p := make([]int, n)
			for i := range p {
				p[i] = code % n
				code /= n
			}
			if !yield(p) {
				return
			}
		}
	}
}

// relationOfMap has the pairs of a point and the one at its place.
func relationOfMap(p []int) []int {
	return relationWhere(len(p), func(x, y int) bool { return p[x] == y })
}

// noKinds returns texts that are no texts of kinds.
func noKinds() []string {
	texts := []string{
		" ", "\n", "-", "r ", " r", "r s", "r,s", "rst\n", "\x00", "r\x00", "\x00r", "\xff", "r\xff", "\xffr", "\x80\x80",
		"é", "ré", "☃", "r\u0455t", "\ufffd", "R", "RST", "rSt", "x", "rx", "xr", "rise", "rstu", "1", "r1",
		kindLetters + "r", kindLetters + "o", kindLetters + "x", kindLetters + kindLetters, "x" + kindLetters,
		"rsr", "rst rst", "rstrst", "isi", "tot", "fdf", strings.Repeat("r", 1000), strings.Repeat("x", 1000), strings.Repeat(kindLetters, 200),
	}
	for letter := range 256 {
		one := string([]byte{byte(letter)})
		if strings.Contains(kindLetters, one) {
			texts = append(texts, one+one, "x"+one, one+"x", kindLetters+one, one+kindLetters)
		} else {
			texts = append(texts, one, "r"+one, one+"r", "r"+one+"s", kindLetters+one)
		}
	}
	return texts
}

// notOf returns the texts that a function fails for that takes some letters alone: those that are no texts of kinds, and those with other letters.
func notOf(letters string) []string {
	texts := noKinds()
	for i := range len(kindLetters) {
		if one := kindLetters[i : i+1]; !strings.Contains(letters, one) {
			texts = append(texts, one, letters+one, one+letters, letters[:1]+one+letters[1:], one+kindLetters[:1])
		}
	}
	return append(texts, kindLetters, reversed(kindLetters))
}
