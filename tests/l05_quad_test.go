package tests

import (
	"math"
	"slices"
	"strings"
	"sync"
	"testing"

	"loop.example/g03104/impl"
)

// orderPoints are lists of 3 to 7 points, many of them scattered.
func orderPoints() [][]impl.Point {
	lists := morePoints()
	bits := uint64(11)
	for n := range 60 {
		var list []impl.Point
		for range 3 + n%5 {
			bits = bits*6364136223846793005 + 1442695040888963407
			list = append(list, impl.Point{X: int(bits>>20%101) - 50, Y: int(bits>>40%101) - 50})
		}
		if wantArePoints(list) {
			lists = append(lists, list)
		}
	}
	return lists
}

// orderSigns are signs for which IsAcyclic is true: all of 3 to 5 elements, and many of 6 and 7, of points and of points some of which are reversed.
var orderSigns = sync.OnceValue(func() []impl.Signs {
	list := slices.Concat(allSigns(3), allSigns(4), allSigns(5))
	for _, points := range orderPoints() {
		if len(points) >= 6 {
			list = append(list, signsOfPoints(points))
		}
	}
	for _, points := range morePoints() {
		for set := 1; set < 1<<len(points) && len(points) >= 6; set += 3 {
			list = append(list, wantReversed(signsOfPoints(points), elementsOf(len(points), set)...))
		}
	}
	return slices.DeleteFunc(list, func(s impl.Signs) bool { return !wantIsAcyclic(s) })
})

// disorderSigns are signs for which IsAcyclic is false: some are no signs, some break the rule, and some have a circuit with four equal signs.
func disorderSigns() []impl.Signs {
	list := badSigns()
	for _, s := range slices.Concat(allSigns(4), sampleSigns()) {
		if !wantIsAcyclic(s) {
			list = append(list, s)
		}
	}
	return list
}

func setOf(elements ...int) int {
	set := 0
	for _, e := range elements {
		set += int(math.Pow(2, float64(e)))
	}
	return set
}

// wantSplit divides four elements of order signs by the text of their circuit.
func wantSplit(s impl.Signs, four ...int) (int, int) {
	var same, others []int
	text := wantCircuit(s, four...)
	for at := range text {
		if text[at] == text[0] {
			same = append(same, four[at])
		} else {
			others = append(others, four[at])
		}
	}
	return setOf(same...), setOf(others...)
}

// wantInner looks for the element whose set is its own; s are order signs.
func wantInner(s impl.Signs, four ...int) int {
	same, others := wantSplit(s, four...)
	for _, e := range four {
		if same != 0 && (same == setOf(e) || others == setOf(e)) {
			return e
		}
	}
	return -1
}

// wantInTriangle tells by areas alone whether p lies inside the triangle of a, b and c.
func wantInTriangle(p impl.Point, a impl.Point, b impl.Point, c impl.Point) bool {
	turn := bigArea(a, b, p).Sign()
	return turn != 0 && turn == bigArea(b, c, p).Sign() && turn == bigArea(c, a, p).Sign()
}

// ascendingFours returns the lists in the order of their first different element.
func ascendingFours(n int) [][]int {
	var list [][]int
	for number := range n * n * n * n {
		a, b, c, d := number/n/n/n, number/n/n%n, number/n%n, number%n
		if a < b && b < c && c < d {
			list = append(list, []int{a, b, c, d})
		}
	}
	return list
}

func ascendingThrees(n int) [][]int {
	var list [][]int
	for number := range n * n * n {
		if a, b, c := number/n/n, number/n%n, number%n; a < b && b < c {
			list = append(list, []int{a, b, c})
		}
	}
	return list
}

func TestSplitOfAndInnerOf(t *testing.T) {
	inside := sgn(4, "++-+")
	square := sgn(4, "++++")
	mixed := sgn(5, "------++++")
	cases := []struct {
		s                   impl.Signs
		a, b, c, d          int
		same, others, inner int
	}{
		{inside, 0, 1, 2, 3, 7, 8, 3}, {inside, 3, 0, 1, 2, 8, 7, 3}, {inside, 0, 3, 1, 2, 7, 8, 3}, {inside, 2, 1, 3, 0, 7, 8, 3},
		{sgn(4, "+---"), 0, 1, 2, 3, 13, 2, 1}, {sgn(4, "+---"), 1, 0, 2, 3, 2, 13, 1}, {sgn(4, "+---"), 3, 2, 1, 0, 13, 2, 1},
		{sgn(4, "++-+"), 1, 2, 0, 3, 7, 8, 3}, {sgn(4, "-+++"), 0, 1, 2, 3, 13, 2, 1}, {sgn(4, "+-++"), 0, 1, 2, 3, 1, 14, 0}, {sgn(4, "--+-"), 0, 1, 2, 3, 7, 8, 3}, {sgn(4, "+++-"), 0, 1, 2, 3, 11, 4, 2},
		{square, 0, 1, 2, 3, 5, 10, -1}, {square, 1, 0, 2, 3, 10, 5, -1}, {square, 0, 2, 1, 3, 5, 10, -1}, {square, 3, 0, 1, 2, 10, 5, -1},
		{sgn(4, "----"), 0, 1, 2, 3, 5, 10, -1}, {sgn(4, "+--+"), 0, 1, 2, 3, 3, 12, -1}, {sgn(4, "++--"), 0, 1, 2, 3, 9, 6, -1},
		{sgn(5, "++++++++++"), 0, 1, 2, 4, 5, 18, -1}, {sgn(5, "++++++++++"), 4, 3, 2, 1, 20, 10, -1},
		{mixed, 0, 1, 2, 3, 1 + 2 + 8, 4, 2}, {mixed, 1, 2, 3, 4, 10, 20, -1},
		{inside, 0, 1, 2, 2, 0, 0, -1}, {inside, 0, 0, 1, 2, 0, 0, -1}, {inside, 0, 1, 0, 2, 0, 0, -1}, {inside, 0, 1, 2, 0, 0, 0, -1}, {inside, 1, 3, 3, 0, 0, 0, -1}, {inside, 1, 3, 0, 3, 0, 0, -1}, {inside, 3, 3, 3, 3, 0, 0, -1},
		{inside, 0, 1, 2, 4, 0, 0, -1}, {inside, 4, 0, 1, 2, 0, 0, -1}, {inside, 0, 1, 2, -1, 0, 0, -1}, {inside, -1, 0, 1, 2, 0, 0, -1}, {inside, -1, -1, -1, -1, 0, 0, -1},
		{sgn(3, "+"), 0, 1, 2, 3, 0, 0, -1}, {sgn(3, "+"), 0, 1, 2, 2, 0, 0, -1},
		{sgn(4, "+-+-"), 0, 1, 2, 3, 0, 0, -1}, {sgn(4, "-+-+"), 3, 2, 1, 0, 0, 0, -1}, {sgn(5, "++++-+++++"), 0, 1, 2, 3, 0, 0, -1}, {sgn(5, "+--++---+-"), 0, 1, 2, 3, 0, 0, -1},
		{impl.Signs{}, 0, 1, 2, 3, 0, 0, -1}, {sgn(4, "+++"), 0, 1, 2, 3, 0, 0, -1}, {sgn(4, "+++0"), 0, 1, 2, 3, 0, 0, -1}, {sgn(8, strings.Repeat("+", 56)), 0, 1, 2, 3, 0, 0, -1},
	}
	for _, c := range cases {
		if same, others := impl.SplitOf(c.s, c.a, c.b, c.c, c.d); same != c.same || others != c.others {
			t.Errorf("SplitOf(%v, %d, %d, %d, %d) = %d, %d, want %d, %d", c.s, c.a, c.b, c.c, c.d, same, others, c.same, c.others)
		}
		if got := impl.InnerOf(c.s, c.a, c.b, c.c, c.d); got != c.inner {
			t.Errorf("InnerOf(%v, %d, %d, %d, %d) = %d, want %d", c.s, c.a, c.b, c.c, c.d, got, c.inner)
		}
	}
}

// checkFour compares the functions of four elements with the circuit.
func checkFour(t *testing.T, s impl.Signs, a int, b int, c int, d int) {
	t.Helper()
	wantSame, wantOthers := wantSplit(s, a, b, c, d)
	if same, others := impl.SplitOf(s, a, b, c, d); same != wantSame || others != wantOthers {
		t.Errorf("SplitOf(%v, %d, %d, %d, %d) = %d, %d, want %d, %d", s, a, b, c, d, same, others, wantSame, wantOthers)
	}
	inner := wantInner(s, a, b, c, d)
	if got := impl.InnerOf(s, a, b, c, d); got != inner {
		t.Errorf("InnerOf(%v, %d, %d, %d, %d) = %d, want %d", s, a, b, c, d, got, inner)
	}
	if got, want := impl.IsInside(s, a, b, c, d), wantSame != 0 && inner == a; got != want {
		t.Errorf("IsInside(%v, %d, %d, %d, %d) = %t", s, a, b, c, d, got)
	}
}

func TestEachFourOfOrderSigns(t *testing.T) {
	count := 0
	for _, s := range orderSigns() {
		eachFour(s.N, func(a int, b int, c int, d int) {
			count++
			if s.N <= 4 || count%11 == 0 {
				checkFour(t, s, a, b, c, d)
			}
		})
	}
}

// TestEachFourNumbers takes equal numbers and numbers beside the elements as well.
func TestEachFourNumbers(t *testing.T) {
	for _, s := range []impl.Signs{sgn(3, "+"), sgn(3, "-"), sgn(4, "++-+"), sgn(4, "++++"), sgn(5, "------++++")} {
		sides := s.N + 2
		for number := range sides * sides * sides * sides {
			checkFour(t, s, number%sides-1, number/sides%sides-1, number/sides/sides%sides-1, number/sides/sides/sides-1)
		}
	}
}

// TestFourElementsAreTwoAndTwoOrOneAndThree asks the promise itself.
func TestFourElementsAreTwoAndTwoOrOneAndThree(t *testing.T) {
	for _, s := range orderSigns() {
		for _, four := range ascendingFours(s.N) {
			same, others := impl.SplitOf(s, four[0], four[1], four[2], four[3])
			some, rest := elementsOf(s.N, same), elementsOf(s.N, others)
			if same+others != setOf(four...) || len(some)+len(rest) != 4 || len(some) == 0 || len(rest) == 0 || !slices.Contains(some, four[0]) {
				t.Errorf("SplitOf(%v, %v) = %d, %d", s, four, same, others)
				continue
			}
			if len(some) > len(rest) {
				some, rest = rest, some
			}
			inner := impl.InnerOf(s, four[0], four[1], four[2], four[3])
			if len(some) == 2 && inner != -1 || len(some) == 1 && inner != some[0] {
				t.Errorf("InnerOf(%v, %v) = %d, the sets are %v and %v", s, four, inner, some, rest)
			}
		}
	}
}

func TestSplitOfPoints(t *testing.T) {
	check := func(list []impl.Point, four ...int) {
		s := signsOfPoints(list)
		same, others := impl.SplitOf(s, four[0], four[1], four[2], four[3])
		var some, rest []impl.Point
		for e := range list {
			if same/setOf(e)%2 == 1 {
				some = append(some, list[e])
			}
			if others/setOf(e)%2 == 1 {
				rest = append(rest, list[e])
			}
		}
		if same+others != setOf(four...) || !haveCommonPoint(some, rest) {
			t.Errorf("SplitOf of %v at %v = %d, %d: no common point", list, four, same, others)
		}
		inner := -1
		for at, e := range four {
			others := slices.Delete(slices.Clone(four), at, at+1)
			if wantInTriangle(list[e], list[others[0]], list[others[1]], list[others[2]]) {
				inner = e
			}
		}
		if got := impl.InnerOf(s, four[0], four[1], four[2], four[3]); got != inner {
			t.Errorf("InnerOf of %v at %v = %d, want %d", list, four, got, inner)
		}
	}
	for _, list := range orderPoints() {
		for at, four := range ascendingFours(len(list)) {
			slices.Reverse(four[at%3:])
			check(list, four...)
		}
	}
	eachGridFour(func(list []impl.Point) {
		if wantArePoints(list) {
			check(list, 0, 1, 2, 3)
		}
	})
}

func TestIsInside(t *testing.T) {
	inside := sgn(4, "++-+")
	cases := []struct {
		s          impl.Signs
		p, a, b, c int
		want       bool
	}{
		{inside, 3, 0, 1, 2, true}, {inside, 3, 2, 1, 0, true}, {inside, 3, 1, 0, 2, true}, {inside, 3, 1, 2, 0, true},
		{inside, 0, 3, 1, 2, false}, {inside, 1, 0, 2, 3, false}, {inside, 2, 0, 1, 3, false},
		{sgn(4, "+---"), 1, 0, 2, 3, true}, {sgn(4, "+---"), 0, 1, 2, 3, false}, {sgn(4, "+-++"), 0, 1, 2, 3, true}, {sgn(4, "+++-"), 2, 0, 1, 3, true},
		{sgn(4, "++++"), 3, 0, 1, 2, false}, {sgn(4, "++++"), 0, 1, 2, 3, false},
		{inside, 3, 0, 1, 1, false}, {inside, 3, 3, 1, 2, false}, {inside, 3, 0, 3, 2, false}, {inside, 3, 0, 1, 3, false}, {inside, 3, 3, 3, 3, false},
		// InnerOf is -1 for each of these.
		{inside, -1, 0, 1, 2, false}, {inside, -1, 0, 0, 1, false}, {inside, -1, -1, -1, -1, false}, {inside, -1, 7, 8, 9, false}, {sgn(4, "++++"), -1, 0, 1, 2, false}, {sgn(3, "+"), -1, 0, 1, 2, false},
		{impl.Signs{}, -1, 0, 1, 2, false}, {sgn(4, "+-+-"), -1, 0, 1, 2, false}, {sgn(5, "++++-+++++"), -1, 0, 1, 2, false},
		{sgn(5, "++++-+++++"), 3, 0, 1, 2, false}, {sgn(5, "++++-+++++"), 2, 0, 3, 4, false}, {sgn(5, "++++-+++++"), 4, 0, 2, 3, false}, {sgn(4, "+-+-"), 3, 0, 1, 2, false},
		{impl.Signs{}, 3, 0, 1, 2, false}, {sgn(4, "++-"), 3, 0, 1, 2, false}, {sgn(4, "++-0"), 3, 0, 1, 2, false}, {sgn(3, "+"), 3, 0, 1, 2, false},
	}
	for _, c := range cases {
		if got := impl.IsInside(c.s, c.p, c.a, c.b, c.c); got != c.want {
			t.Errorf("IsInside(%v, %d, %d, %d, %d) = %t", c.s, c.p, c.a, c.b, c.c, got)
		}
	}
}

// checkNoFour expects the results of four numbers that are not four elements of order signs.
func checkNoFour(t *testing.T, s impl.Signs, a int, b int, c int, d int) {
	t.Helper()
	same, others := impl.SplitOf(s, a, b, c, d)
	if same != 0 || others != 0 || impl.InnerOf(s, a, b, c, d) != -1 || impl.IsInside(s, a, b, c, d) {
		t.Errorf("%v at %d, %d, %d, %d: SplitOf %d, %d, InnerOf %d, IsInside %t", clip(s), a, b, c, d, same, others, impl.InnerOf(s, a, b, c, d), impl.IsInside(s, a, b, c, d))
	}
}

// farNumbers are no elements of 7.
func farNumbers() []int {
	return []int{-1, -2, -7, 7, 8, 63, 64, 65, 255, 256, 1 << 32, 1<<32 + 3, math.MaxInt, math.MaxInt - 1, math.MinInt, math.MinInt + 1}
}

func TestFoursOfNoElements(t *testing.T) {
	for _, s := range []impl.Signs{sgn(7, strings.Repeat("+", 35)), signsOfPoints(pts(0, 50, 10, -40, -10, -40, 3, 5, -4, 6, 1, 9, 45, -7))} {
		for _, far := range farNumbers() {
			for at := range 4 {
				for first := range 4 {
					four := []int{first, first + 1, first + 2, first + 3}
					four[at] = far
					checkNoFour(t, s, four[0], four[1], four[2], four[3])
				}
			}
			checkNoFour(t, s, far, far, far, far)
			checkNoFour(t, s, far, 0, 1, far)
			if a, b := impl.CountInside(s, far, 0, 1), impl.CountInside(s, 0, far, 1); a != -1 || b != -1 {
				t.Errorf("CountInside(%v) with %d = %d, %d", s, far, a, b)
			}
			if a, b := impl.CountInside(s, 0, 1, far), impl.CountInside(s, far, far, far); a != -1 || b != -1 {
				t.Errorf("CountInside(%v) with %d = %d, %d", s, far, a, b)
			}
		}
	}
}

func TestFoursOfNoOrderSigns(t *testing.T) {
	for _, s := range disorderSigns() {
		for _, four := range [][4]int{{0, 1, 2, 3}, {3, 0, 1, 2}, {0, 1, 2, 2}, {-1, 0, 1, 2}} {
			checkNoFour(t, s, four[0], four[1], four[2], four[3])
		}
		if got := impl.CountQuads(s); got != -1 {
			t.Errorf("CountQuads(%v) = %d", clip(s), got)
		}
		if got := impl.QuadsOf(s); len(got) != 0 {
			t.Errorf("QuadsOf(%v) = %v", clip(s), got)
		}
		if a, b := impl.CountInside(s, 0, 1, 2), impl.CountInside(s, 1, 1, 0); a != -1 || b != -1 {
			t.Errorf("CountInside(%v) = %d, %d", clip(s), a, b)
		}
		if got := impl.EmptyTriangles(s); got != -1 {
			t.Errorf("EmptyTriangles(%v) = %d", clip(s), got)
		}
	}
}

func TestCountQuadsAndEmptyTriangles(t *testing.T) {
	cases := []struct {
		s            impl.Signs
		quads, empty int
	}{
		{sgn(3, "+"), 0, 1}, {sgn(3, "-"), 0, 1},
		{sgn(4, "++-+"), 0, 3}, {sgn(4, "+---"), 0, 3}, {sgn(4, "++++"), 1, 4}, {sgn(4, "+--+"), 1, 4},
		{sgn(5, "++++++++++"), 5, 10}, {sgn(5, "----------"), 5, 10}, {sgn(5, "------++++"), 1, 7},
		{signsOfPoints(pts(0, 0, 5, 0, 6, 4, 2, 7, -2, 3)), 5, 10},
		{signsOfPoints(pts(0, 0, 10, 0, 10, 9, 0, 8, 4, 3)), 3, 8},
		{signsOfPoints(pts(0, 0, 10, 0, 5, 9, 4, 3, 6, 4)), 1, 7},
		{signsOfPoints(pts(0, 0, 10, 0, 5, 9, 4, 3, 6, 3, 5, 5)), 3, 13},
		{sgn(6, strings.Repeat("+", 20)), 15, 20}, {sgn(6, strings.Repeat("-", 20)), 15, 20},
		{sgn(7, strings.Repeat("+", 35)), 35, 35}, {sgn(7, strings.Repeat("-", 35)), 35, 35},
		{sgn(4, "+-+-"), -1, -1}, {sgn(5, "++++-+++++"), -1, -1}, {sgn(5, "+--++---+-"), -1, -1}, {impl.Signs{}, -1, -1}, {sgn(2, ""), -1, -1}, {sgn(3, ""), -1, -1}, {sgn(3, "0"), -1, -1}, {sgn(8, strings.Repeat("+", 56)), -1, -1},
	}
	for _, c := range cases {
		if got := impl.CountQuads(c.s); got != c.quads {
			t.Errorf("CountQuads(%v) = %d, want %d", c.s, got, c.quads)
		}
		if got := len(impl.QuadsOf(c.s)); got != max(c.quads, 0) {
			t.Errorf("QuadsOf(%v) has %d lists, want %d", c.s, got, c.quads)
		}
		if got := impl.EmptyTriangles(c.s); got != c.empty {
			t.Errorf("EmptyTriangles(%v) = %d, want %d", c.s, got, c.empty)
		}
	}
}

func TestQuadsOf(t *testing.T) {
	cases := []struct {
		s    impl.Signs
		want [][]int
	}{
		{sgn(3, "+"), nil}, {sgn(4, "++-+"), nil}, {sgn(4, "++++"), [][]int{{0, 1, 2, 3}}},
		{sgn(5, "++++++++++"), [][]int{{0, 1, 2, 3}, {0, 1, 2, 4}, {0, 1, 3, 4}, {0, 2, 3, 4}, {1, 2, 3, 4}}},
		{signsOfPoints(pts(0, 0, 10, 0, 10, 9, 0, 8, 4, 3)), [][]int{{0, 1, 2, 3}, {0, 2, 3, 4}, {1, 2, 3, 4}}},
		{signsOfPoints(pts(0, 0, 10, 0, 5, 9, 4, 3, 6, 4)), [][]int{{0, 1, 3, 4}}},
		{signsOfPoints(pts(0, 0, 10, 0, 5, 9, 4, 3, 6, 3, 5, 5)), [][]int{{0, 1, 3, 4}, {0, 2, 3, 5}, {1, 2, 4, 5}}},
	}
	for _, c := range cases {
		if got := impl.QuadsOf(c.s); !slices.EqualFunc(got, c.want, slices.Equal) {
			t.Errorf("QuadsOf(%v) = %v, want %v", c.s, got, c.want)
		}
	}
}

func TestQuadsOfEach(t *testing.T) {
	for _, s := range orderSigns() {
		var want [][]int
		for _, four := range ascendingFours(s.N) {
			if wantInner(s, four...) == -1 {
				want = append(want, four)
			}
		}
		if got := impl.QuadsOf(s); !slices.EqualFunc(got, want, slices.Equal) {
			t.Errorf("QuadsOf(%v) = %v, want %v", s, got, want)
		}
		if got := impl.CountQuads(s); got != len(want) {
			t.Errorf("CountQuads(%v) = %d, want %d", s, got, len(want))
		}
	}
}

func TestQuadsOfAreNewEachTime(t *testing.T) {
	s := sgn(5, "++++++++++")
	want := [][]int{{0, 1, 2, 3}, {0, 1, 2, 4}, {0, 1, 3, 4}, {0, 2, 3, 4}, {1, 2, 3, 4}}
	first := impl.QuadsOf(s)
	for at, four := range first {
		longer := append(four, -8)
		if !slices.EqualFunc(first[at+1:], want[at+1:], slices.Equal) {
			t.Fatalf("after %v: %v", longer, first)
		}
		for i := range four {
			four[i] = -9
		}
	}
	if got := impl.QuadsOf(s); !slices.EqualFunc(got, want, slices.Equal) {
		t.Errorf("QuadsOf(%v) = %v, want %v", s, got, want)
	}
}

func TestCountInside(t *testing.T) {
	inside := sgn(4, "++-+")
	six := signsOfPoints(pts(0, 0, 10, 0, 5, 9, 4, 3, 6, 3, 5, 5))
	seven := signsOfPoints(pts(0, 50, 10, -40, -10, -40, 0, 5, -1, 6, 1, 9, 2, -7))
	cases := []struct {
		s       impl.Signs
		a, b, c int
		want    int
	}{
		{inside, 0, 1, 2, 1}, {inside, 2, 1, 0, 1}, {inside, 1, 0, 2, 1}, {inside, 0, 1, 3, 0}, {inside, 3, 2, 0, 0}, {inside, 1, 2, 3, 0},
		{six, 0, 1, 2, 3}, {six, 2, 0, 1, 3}, {six, 0, 1, 5, 2}, {six, 5, 1, 0, 2}, {six, 0, 1, 3, 0}, {six, 3, 4, 5, 0}, {six, 0, 2, 4, 2},
		{seven, 0, 1, 2, 4}, {seven, 2, 1, 0, 4},
		{sgn(3, "+"), 0, 1, 2, 0}, {sgn(3, "-"), 2, 0, 1, 0}, {sgn(7, strings.Repeat("+", 35)), 0, 3, 6, 0},
		{inside, 0, 1, 1, -1}, {inside, 0, 0, 1, -1}, {inside, 0, 1, 0, -1}, {inside, 2, 2, 2, -1}, {inside, 0, 1, 4, -1}, {inside, 4, 1, 2, -1}, {inside, 0, -1, 2, -1}, {sgn(3, "+"), 0, 1, 3, -1},
		{sgn(4, "+-+-"), 0, 1, 2, -1}, {sgn(5, "++++-+++++"), 0, 1, 2, -1}, {impl.Signs{}, 0, 1, 2, -1}, {impl.Signs{}, 0, 0, 0, -1}, {sgn(3, ""), 0, 1, 2, -1}, {sgn(8, strings.Repeat("+", 56)), 0, 1, 2, -1},
	}
	for _, c := range cases {
		if got := impl.CountInside(c.s, c.a, c.b, c.c); got != c.want {
			t.Errorf("CountInside(%v, %d, %d, %d) = %d, want %d", c.s, c.a, c.b, c.c, got, c.want)
		}
	}
}

// wantCountInside returns the number of elements that are alone against a, b and c in order signs.
func wantCountInside(s impl.Signs, a int, b int, c int) int {
	count := 0
	for p := range s.N {
		if p != a && p != b && p != c && wantInner(s, p, a, b, c) == p {
			count++
		}
	}
	return count
}

func TestCountInsideEach(t *testing.T) {
	for at, s := range orderSigns() {
		empty := 0
		for _, three := range ascendingThrees(s.N) {
			want := wantCountInside(s, three[0], three[1], three[2])
			if want == 0 {
				empty++
			}
			a, b, c := three[at%3], three[(at+1)%3], three[(at+2)%3]
			if got := impl.CountInside(s, a, b, c); got != want {
				t.Errorf("CountInside(%v, %d, %d, %d) = %d, want %d", s, a, b, c, got, want)
			}
			if got := impl.CountInside(s, b, a, c); got != want {
				t.Errorf("CountInside(%v, %d, %d, %d) = %d, want %d", s, b, a, c, got, want)
			}
		}
		if got := impl.EmptyTriangles(s); got != empty {
			t.Errorf("EmptyTriangles(%v) = %d, want %d", s, got, empty)
		}
	}
}

// TestCountInsideEachThreeNumbers takes equal numbers and numbers beside the elements as well.
func TestCountInsideEachThreeNumbers(t *testing.T) {
	for _, s := range []impl.Signs{sgn(3, "-"), sgn(4, "++-+"), signsOfPoints(pts(0, 0, 10, 0, 5, 9, 4, 3, 6, 3, 5, 5))} {
		sides := s.N + 2
		for number := range sides * sides * sides {
			a, b, c := number%sides-1, number/sides%sides-1, number/sides/sides-1
			want := -1
			if wantSignAt(s, a, b, c) != 0 {
				want = wantCountInside(s, a, b, c)
			}
			if got := impl.CountInside(s, a, b, c); got != want {
				t.Errorf("CountInside(%v, %d, %d, %d) = %d, want %d", s, a, b, c, got, want)
			}
		}
	}
}

func TestCountInsideOfPoints(t *testing.T) {
	for _, list := range orderPoints() {
		s := signsOfPoints(list)
		total, empty := 0, 0
		for _, three := range ascendingThrees(len(list)) {
			a, b, c := three[0], three[1], three[2]
			want := 0
			for p := range list {
				if p != a && p != b && p != c && wantInTriangle(list[p], list[a], list[b], list[c]) {
					want++
				}
			}
			if got := impl.CountInside(s, a, b, c); got != want {
				t.Errorf("CountInside of %v, %v = %d, want %d", list, three, got, want)
			}
			total += want
			if want == 0 {
				empty++
			}
		}
		if got := impl.EmptyTriangles(s); got != empty {
			t.Errorf("EmptyTriangles of %v = %d, want %d", list, got, empty)
		}
		// Each set of four has one element inside the triangle of the others, or is one of QuadsOf.
		if got, want := impl.CountQuads(s), len(ascendingFours(len(list)))-total; got != want {
			t.Errorf("CountQuads of %v = %d, want %d", list, got, want)
		}
	}
}

// TestCountsOfAlikeSigns holds because mirrored or renamed elements lie inside as many triangles as before.
func TestCountsOfAlikeSigns(t *testing.T) {
	for _, s := range orderSigns() {
		var names []int
		for i := range s.N {
			names = append(names, (i+1)%s.N)
		}
		names[0], names[1] = names[1], names[0]
		opposite, okOpposite := impl.OppositeSigns(s)
		renamed, okRenamed := impl.RenameSigns(s, names)
		if !okOpposite || !okRenamed {
			t.Fatalf("no signs like %v, names %v", s, names)
		}
		for _, alike := range []impl.Signs{opposite, renamed} {
			if impl.CountQuads(alike) != impl.CountQuads(s) || impl.EmptyTriangles(alike) != impl.EmptyTriangles(s) {
				t.Errorf("%v has %d quads, %d empty triangles; %v has %d, %d", s, impl.CountQuads(s), impl.EmptyTriangles(s), alike, impl.CountQuads(alike), impl.EmptyTriangles(alike))
			}
		}
		if !slices.EqualFunc(impl.QuadsOf(opposite), impl.QuadsOf(s), slices.Equal) {
			t.Errorf("QuadsOf(%v) = %v, of the opposite %v", s, impl.QuadsOf(s), impl.QuadsOf(opposite))
		}
	}
}
