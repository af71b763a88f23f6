package tests

import (
	"math"
	"slices"
	"strings"
	"testing"

	"loop.example/g03104/impl"
)

// edgeCounts are the numbers of edges of 3 to 7 elements, and 0 for other numbers of elements.
var edgeCounts = []int{0, 0, 0, 3, 6, 10, 15, 21, 0, 0}

// pairsOf returns the pairs of ascending numbers below n in the order of their edges.
func pairsOf(n int) [][]int {
	var list [][]int
	for number := range n * n {
		if i, j := number/n, number%n; i < j {
			list = append(list, []int{i, j})
		}
	}
	return list
}

// wantDoCross asks for elements of order signs, as all other numbers have no circuit.
func wantDoCross(s impl.Signs, a int, b int, c int, d int) bool {
	return wantCircuit(s, a, b, c, d) != "" && sameSplit(s, a, b, c, d)
}

// wantCrossings returns the pairs of ascending edges whose elements cross.
func wantCrossings(n int, cross func(a int, b int, c int, d int) bool) [][]int {
	pairs := pairsOf(n)
	return slices.DeleteFunc(pairsOf(len(pairs)), func(edges []int) bool {
		one, other := pairs[edges[0]], pairs[edges[1]]
		return !cross(one[0], one[1], other[0], other[1])
	})
}

func wantCrossingsOfSigns(s impl.Signs) [][]int {
	return wantCrossings(s.N, func(a int, b int, c int, d int) bool { return wantDoCross(s, a, b, c, d) })
}

// wantCrossingsOfPoints tells by areas alone which segments have a common point.
func wantCrossingsOfPoints(list []impl.Point) [][]int {
	return wantCrossings(len(list), func(a int, b int, c int, d int) bool {
		isFour := a != c && a != d && b != c && b != d
		return isFour && haveCommonPoint([]impl.Point{list[a], list[b]}, []impl.Point{list[c], list[d]})
	})
}

// wantFreeEdges takes both edges of each crossing away from all of them.
func wantFreeEdges(n int, crossings [][]int) int {
	crossed := slices.Concat(crossings...)
	free := 0
	for k := range edgeCounts[n] {
		if !slices.Contains(crossed, k) {
			free += setOf(k)
		}
	}
	return free
}

func wantHullEdges(s impl.Signs) int {
	hull := 0
	for k, pair := range pairsOf(s.N) {
		if len(wantLeft(s, pair[0], pair[1])) == 0 || len(wantLeft(s, pair[1], pair[0])) == 0 {
			hull += setOf(k)
		}
	}
	return hull
}

// edgeSets returns all sets of few edges; of more, it returns the least and the greatest sets, those of one edge and of all but one, those of the edges of one element, and scattered ones.
func edgeSets(n int) []int {
	count := edgeCounts[n]
	var sets []int
	if count <= 6 {
		for set := range 1 << count {
			sets = append(sets, set)
		}
		return sets
	}
	all := 1<<count - 1
	sets = append(sets, 0, all)
	for k := range count {
		sets = append(sets, setOf(k), all-setOf(k))
	}
	for e := range n {
		star := 0
		for k, pair := range pairsOf(n) {
			if slices.Contains(pair, e) {
				star += setOf(k)
			}
		}
		sets = append(sets, star, all-star)
	}
	bits := uint64(n)
	for range 12 {
		bits = bits*6364136223846793005 + 1442695040888963407
		sets = append(sets, int(bits>>30)&all)
	}
	return sets
}

// farEdgeSets are no sets of edges of n elements.
func farEdgeSets(n int) []int {
	all := 1<<edgeCounts[n] - 1
	return []int{-1, -2, -all, -all - 1, all + 1, all + 2, 2*all + 1, 2*all + 2, 1 << 32, 1<<32 + all, 1 << 62, 1<<62 + all, math.MaxInt, math.MaxInt - all, math.MinInt, math.MinInt + 1, math.MinInt + all}
}

func checkCrossingPairs(t *testing.T, s impl.Signs, edges int, crossings [][]int) {
	t.Helper()
	list := elementsOf(edgeCounts[s.N], edges)
	want := 0
	for _, pair := range crossings {
		if slices.Contains(list, pair[0]) && slices.Contains(list, pair[1]) {
			want++
		}
	}
	if got := impl.CrossingPairs(s, edges); got != want {
		t.Errorf("CrossingPairs(%v, %d) = %d, want %d", s, edges, got, want)
	}
	if got := impl.IsPlane(s, edges); got != (want == 0) {
		t.Errorf("IsPlane(%v, %d) = %t, %d pairs cross", s, edges, got, want)
	}
}

// checkNoEdgeSet expects the results of signs that are no order signs or of numbers that are no sets of edges.
func checkNoEdgeSet(t *testing.T, s impl.Signs, edges int) {
	t.Helper()
	if count, plane := impl.CrossingPairs(s, edges), impl.IsPlane(s, edges); count != -1 || plane {
		t.Errorf("%v, %d: CrossingPairs %d, IsPlane %t", clip(s), edges, count, plane)
	}
}

func TestEdges(t *testing.T) {
	// The text of each list has both elements of each edge, in order.
	lists := map[int]string{
		3: "01 02 12",
		4: "01 02 03 12 13 23",
		5: "01 02 03 04 12 13 14 23 24 34",
		6: "01 02 03 04 05 12 13 14 15 23 24 25 34 35 45",
		7: "01 02 03 04 05 06 12 13 14 15 16 23 24 25 26 34 35 36 45 46 56",
	}
	all := map[int]int{3: 7, 4: 63, 5: 1023, 6: 32767, 7: 2097151}
	for n := 3; n <= 7; n++ {
		if got := impl.AllEdges(n); got != all[n] {
			t.Errorf("AllEdges(%d) = %d, want %d", n, got, all[n])
		}
		edges := strings.Split(lists[n], " ")
		for k, edge := range edges {
			if i, j := impl.EdgeAt(n, k); i != int(edge[0]-'0') || j != int(edge[1]-'0') {
				t.Errorf("EdgeAt(%d, %d) = %d, %d, want %s", n, k, i, j, edge)
			}
		}
		for number := range 100 {
			i, j := number/10, number%10
			want := slices.Index(edges, impl.FormatInt(min(i, j))+impl.FormatInt(max(i, j)))
			if got := impl.EdgeIndex(n, i, j); got != want {
				t.Errorf("EdgeIndex(%d, %d, %d) = %d, want %d", n, i, j, got, want)
			}
		}
	}
}

func TestEdgesOfNoElements(t *testing.T) {
	for n := 3; n <= 7; n++ {
		numbers := append(farNumbers(), n, n+1, -n, 2*n, math.MinInt+n)
		for _, far := range numbers {
			if far >= 0 && far < n {
				continue
			}
			for e := range n {
				if a, b := impl.EdgeIndex(n, far, e), impl.EdgeIndex(n, e, far); a != -1 || b != -1 {
					t.Errorf("EdgeIndex(%d) of %d and %d = %d, %d", n, far, e, a, b)
				}
			}
			for _, other := range numbers {
				if got := impl.EdgeIndex(n, far, other); got != -1 && (other < 0 || other >= n) {
					t.Errorf("EdgeIndex(%d, %d, %d) = %d", n, far, other, got)
				}
			}
		}
		for e := range n {
			if got := impl.EdgeIndex(n, e, e); got != -1 {
				t.Errorf("EdgeIndex(%d, %d, %d) = %d", n, e, e, got)
			}
		}
		for _, far := range append(farNumbers(), edgeCounts[n], edgeCounts[n]+1, 62, 127, 128, math.MinInt+edgeCounts[n]) {
			if i, j := impl.EdgeAt(n, far); (far < 0 || far >= edgeCounts[n]) && (i != -1 || j != -1) {
				t.Errorf("EdgeAt(%d, %d) = %d, %d", n, far, i, j)
			}
		}
	}
}

func TestEdgesOfTooFewOrTooManyElements(t *testing.T) {
	// The numbers of pairs of some of these wrap around to 0 or to those of 3 to 7 elements.
	numbers := []int{0, 1, 2, 8, 9, 10, 11, 12, 16, 63, 64, 65, -1, -2, -3, -4, -5, -6, -7, 1 << 31, 1 << 32, 1<<32 + 1, 1<<32 + 3, 1<<32 + 7, 1<<33 + 3, 1 << 62, 1<<62 + 3, 1<<62 + 5, math.MaxInt, math.MaxInt - 1, math.MinInt, math.MinInt + 1, math.MinInt + 3, math.MinInt + 7}
	for _, n := range numbers {
		if got := impl.AllEdges(n); got != 0 {
			t.Errorf("AllEdges(%d) = %d", n, got)
		}
		for _, k := range append(farNumbers(), 0, 1, 2, 3, 5, 20, 21, 28, n) {
			if i, j := impl.EdgeAt(n, k); i != -1 || j != -1 {
				t.Errorf("EdgeAt(%d, %d) = %d, %d", n, k, i, j)
			}
			if a, b, c := impl.EdgeIndex(n, 0, k), impl.EdgeIndex(n, k, 1), impl.EdgeIndex(n, k, k); a != -1 || b != -1 || c != -1 {
				t.Errorf("EdgeIndex(%d) with %d = %d, %d, %d", n, k, a, b, c)
			}
		}
	}
}

func TestDoCross(t *testing.T) {
	square, inside, mixed := sgn(4, "++++"), sgn(4, "++-+"), sgn(5, "------++++")
	cases := []struct {
		s          impl.Signs
		a, b, c, d int
		want       bool
	}{
		// The elements of an edge, and both edges, can stand in any order.
		{square, 0, 2, 1, 3, true}, {square, 2, 0, 1, 3, true}, {square, 0, 2, 3, 1, true}, {square, 2, 0, 3, 1, true}, {square, 1, 3, 0, 2, true}, {square, 3, 1, 0, 2, true}, {square, 1, 3, 2, 0, true}, {square, 3, 1, 2, 0, true},
		// Opposite sides of the square do not cross.
		{square, 0, 1, 2, 3, false}, {square, 2, 3, 0, 1, false}, {square, 0, 3, 1, 2, false}, {square, 1, 2, 0, 3, false}, {square, 1, 0, 2, 3, false}, {square, 3, 0, 2, 1, false},
		{sgn(4, "----"), 0, 2, 1, 3, true}, {sgn(4, "----"), 0, 1, 2, 3, false},
		{sgn(4, "+--+"), 0, 1, 2, 3, true}, {sgn(4, "+--+"), 3, 2, 0, 1, true}, {sgn(4, "+--+"), 0, 2, 1, 3, false}, {sgn(4, "+--+"), 0, 3, 1, 2, false},
		{sgn(4, "++--"), 0, 3, 1, 2, true}, {sgn(4, "++--"), 2, 1, 3, 0, true}, {sgn(4, "++--"), 0, 1, 2, 3, false}, {sgn(4, "++--"), 0, 2, 1, 3, false},
		// Of one and three elements no edges cross.
		{inside, 0, 1, 2, 3, false}, {inside, 0, 2, 1, 3, false}, {inside, 0, 3, 1, 2, false}, {inside, 3, 0, 1, 2, false},
		{sgn(4, "+---"), 0, 1, 2, 3, false}, {sgn(4, "+---"), 0, 2, 1, 3, false}, {sgn(4, "+---"), 0, 3, 1, 2, false}, {sgn(4, "+-++"), 0, 2, 1, 3, false}, {sgn(4, "+++-"), 0, 2, 1, 3, false},
		{allPlus(5), 0, 2, 1, 4, true}, {allPlus(5), 0, 3, 2, 4, true}, {allPlus(5), 0, 1, 2, 4, false}, {allPlus(5), 1, 3, 4, 2, true}, {allPlus(5), 1, 4, 2, 3, false},
		{mixed, 1, 3, 2, 4, true}, {mixed, 1, 4, 2, 3, false}, {mixed, 0, 2, 1, 3, false}, {mixed, 0, 3, 2, 4, false},
		// Edges with a common element do not cross, and neither do those of elements that do not exist.
		{square, 0, 2, 2, 3, false}, {square, 0, 2, 0, 3, false}, {square, 0, 2, 0, 2, false}, {square, 0, 2, 2, 0, false}, {square, 0, 0, 1, 3, false}, {square, 0, 2, 1, 1, false}, {square, 0, 0, 1, 1, false}, {square, 0, 0, 0, 0, false},
		{square, 0, 2, 1, 4, false}, {square, 0, 4, 1, 3, false}, {square, 4, 0, 1, 3, false}, {square, 0, 2, -1, 3, false}, {square, 0, 2, 1, -1, false}, {square, -1, 2, 1, 3, false}, {square, -1, -1, -1, -1, false}, {square, -1, -2, -3, -4, false}, {square, 4, 5, 6, 7, false}, {square, 0, 2, 65, 67, false},
		{sgn(3, "+"), 0, 2, 1, 3, false}, {sgn(3, "+"), 0, 1, 2, 2, false},
		{sgn(4, "+-+-"), 0, 2, 1, 3, false}, {sgn(4, "+-+-"), 0, 1, 2, 3, false}, {sgn(5, "++++-+++++"), 0, 2, 1, 3, false}, {sgn(5, "++++-+++++"), 1, 3, 2, 4, false}, {sgn(5, "+--++---+-"), 0, 1, 2, 3, false},
		{impl.Signs{}, 0, 2, 1, 3, false}, {impl.Signs{}, 0, 0, 0, 0, false}, {sgn(4, "+++"), 0, 2, 1, 3, false}, {sgn(4, "+++0"), 0, 2, 1, 3, false}, {sgn(8, strings.Repeat("+", 56)), 0, 2, 1, 3, false},
	}
	for _, c := range cases {
		if got := impl.DoCross(c.s, c.a, c.b, c.c, c.d); got != c.want {
			t.Errorf("DoCross(%v, %d, %d, %d, %d) = %t", c.s, c.a, c.b, c.c, c.d, got)
		}
	}
}

func TestDoCrossOfEachFour(t *testing.T) {
	count := 0
	for _, s := range orderSigns() {
		eachFour(s.N, func(a int, b int, c int, d int) {
			count++
			if s.N > 4 && count%11 != 0 {
				return
			}
			if got, want := impl.DoCross(s, a, b, c, d), wantDoCross(s, a, b, c, d); got != want {
				t.Errorf("DoCross(%v, %d, %d, %d, %d) = %t", s, a, b, c, d, got)
			}
		})
	}
}

// TestDoCrossOfEachFourNumbers takes equal numbers and numbers beside the elements as well.
func TestDoCrossOfEachFourNumbers(t *testing.T) {
	for _, s := range []impl.Signs{sgn(3, "+"), sgn(3, "-"), sgn(4, "++-+"), sgn(4, "++++"), sgn(4, "+--+"), sgn(5, "------++++")} {
		sides := s.N + 2
		for number := range sides * sides * sides * sides {
			a, b, c, d := number%sides-1, number/sides%sides-1, number/sides/sides%sides-1, number/sides/sides/sides-1
			if got, want := impl.DoCross(s, a, b, c, d), wantDoCross(s, a, b, c, d); got != want {
				t.Errorf("DoCross(%v, %d, %d, %d, %d) = %t", s, a, b, c, d, got)
			}
		}
	}
}

func TestDoCrossOfPoints(t *testing.T) {
	check := func(list []impl.Point, a int, b int, c int, d int) {
		want := haveCommonPoint([]impl.Point{list[a], list[b]}, []impl.Point{list[c], list[d]})
		if got := impl.DoCross(signsOfPoints(list), a, b, c, d); got != want {
			t.Errorf("DoCross of %v at %d, %d, %d, %d = %t", list, a, b, c, d, got)
		}
	}
	for _, list := range orderPoints() {
		for _, f := range ascendingFours(len(list)) {
			check(list, f[0], f[1], f[2], f[3])
			check(list, f[3], f[1], f[0], f[2])
			check(list, f[1], f[2], f[3], f[0])
		}
	}
	eachGridFour(func(list []impl.Point) {
		if wantArePoints(list) {
			check(list, 0, 2, 3, 1)
		}
	})
}

// TestCrossingEdgesAreDiagonalsOfConvexSets asks the promise itself: in the hull of the four, the elements of each edge do not follow each other.
func TestCrossingEdgesAreDiagonalsOfConvexSets(t *testing.T) {
	for _, s := range orderSigns() {
		fours := impl.ConvexSets(s, 4)
		var crossed []int
		for _, f := range ascendingFours(s.N) {
			four := sgn(4, "")
			for _, three := range ascendingThrees(4) {
				four.Text += string("-?+"[wantSignAt(s, f[three[0]], f[three[1]], f[three[2]])+1])
			}
			hull := wantHull(four)
			areDiagonals := func(a int, b int) bool {
				return len(hull) == 4 && (slices.Index(hull, a)+2)%4 == slices.Index(hull, b)
			}
			for _, p := range [][]int{{0, 1, 2, 3}, {0, 2, 3, 1}, {3, 0, 2, 1}} {
				cross := impl.DoCross(s, f[p[0]], f[p[1]], f[p[2]], f[p[3]])
				if cross != areDiagonals(p[0], p[1]) || cross != areDiagonals(p[2], p[3]) {
					t.Errorf("%v: DoCross of %v in the order %v = %t, the hull has %v", s, f, p, cross, hull)
				}
				if cross {
					crossed = append(crossed, setOf(f...))
				}
			}
		}
		slices.Sort(crossed)
		if !slices.Equal(crossed, fours) {
			t.Errorf("%v: the convex sets are %v, edges cross in %v", s, fours, crossed)
		}
		if got := impl.CrossingPairs(s, impl.AllEdges(s.N)); got != len(fours) || got != impl.CountQuads(s) {
			t.Errorf("CrossingPairs(%v) of all edges = %d, %d convex sets, CountQuads %d", s, got, len(fours), impl.CountQuads(s))
		}
	}
}

func TestHullsAndCrossingsOfCases(t *testing.T) {
	cases := []struct {
		s          impl.Signs
		hull, free int
		// Each set of edges stands with the number of its pairs that cross.
		sets [][2]int
	}{
		{sgn(3, "+"), 7, 7, [][2]int{{0, 0}, {1, 0}, {2, 0}, {4, 0}, {5, 0}, {7, 0}, {8, -1}, {-1, -1}}},
		{sgn(3, "-"), 7, 7, [][2]int{{0, 0}, {7, 0}, {8, -1}, {15, -1}}},
		{sgn(4, "++-+"), 11, 63, [][2]int{{0, 0}, {18, 0}, {33, 0}, {12, 0}, {45, 0}, {63, 0}, {64, -1}}},
		{sgn(4, "+---"), 38, 63, [][2]int{{0, 0}, {18, 0}, {33, 0}, {12, 0}, {63, 0}, {64, -1}}},
		// The diagonals are the edges 1 and 4, then 0 and 5, then 2 and 3.
		{sgn(4, "++++"), 45, 45, [][2]int{{0, 0}, {2, 0}, {16, 0}, {33, 0}, {12, 0}, {45, 0}, {47, 0}, {61, 0}, {18, 1}, {19, 1}, {50, 1}, {63, 1}, {64, -1}, {82, -1}, {-1, -1}, {-46, -1}}},
		{sgn(4, "----"), 45, 45, [][2]int{{0, 0}, {33, 0}, {12, 0}, {47, 0}, {61, 0}, {18, 1}, {63, 1}, {64, -1}}},
		{sgn(4, "+--+"), 30, 30, [][2]int{{0, 0}, {1, 0}, {32, 0}, {18, 0}, {12, 0}, {31, 0}, {62, 0}, {33, 1}, {37, 1}, {63, 1}, {64, -1}}},
		{sgn(4, "++--"), 51, 51, [][2]int{{0, 0}, {4, 0}, {8, 0}, {18, 0}, {33, 0}, {55, 0}, {59, 0}, {12, 1}, {13, 1}, {63, 1}, {64, -1}}},
		// The edges 1, 2, 5, 6 and 8 are the diagonals; each of them crosses two others.
		{allPlus(5), 665, 665, [][2]int{{0, 0}, {665, 0}, {2 + 4, 0}, {2 + 256, 0}, {32 + 64, 0}, {665 + 2 + 4, 0}, {2 + 32, 1}, {2 + 64, 1}, {4 + 64, 1}, {4 + 256, 1}, {32 + 256, 1}, {2 + 32 + 64, 2}, {665 + 2 + 4 + 64, 2}, {2 + 4 + 32 + 64, 3}, {1023 - 1, 5}, {1023 - 2, 3}, {1023, 5}, {1024, -1}, {1024 + 2, -1}}},
		{allMinus(5), 665, 665, [][2]int{{0, 0}, {665 + 32 + 64, 0}, {665 + 2 + 32, 1}, {1023 - 256, 3}, {1023, 5}, {1024, -1}}},
		{sgn(5, "------++++"), 73, 735, [][2]int{{0, 0}, {73, 0}, {735, 0}, {1023 - 32, 0}, {1023 - 256, 0}, {288, 1}, {1023, 1}, {1024, -1}}},
		{nested(), 35, 30887, [][2]int{{0, 0}, {35, 0}, {30887, 0}, {30887 + 8 + 16 + 256, 0}, {8 + 64, 1}, {16 + 512, 1}, {256 + 1024, 1}, {30887 + 8 + 64, 1}, {30887 + 8 + 64 + 16 + 512, 2}, {32767, 3}, {32768, -1}}},
		{allPlus(6), 21041, 21041, [][2]int{{0, 0}, {21041, 0}, {21041 + 2 + 4 + 8, 0}, {2 + 64, 1}, {21041 + 2 + 64, 1}, {32767, 15}, {32768, -1}}},
		{allPlus(7), 1345633, 1345633, [][2]int{{0, 0}, {1345633, 0}, {1345633 + 2 + 4 + 8 + 16, 0}, {2 + 128, 1}, {1345633 + 2 + 128, 1}, {2097151, 35}, {2097152, -1}, {math.MaxInt, -1}, {math.MinInt, -1}}},
	}
	for _, c := range cases {
		if hull, free := impl.HullEdges(c.s), impl.FreeEdges(c.s); hull != c.hull || free != c.free {
			t.Errorf("%v: HullEdges %d, FreeEdges %d, want %d, %d", c.s, hull, free, c.hull, c.free)
		}
		for _, set := range c.sets {
			if count, plane := impl.CrossingPairs(c.s, set[0]), impl.IsPlane(c.s, set[0]); count != set[1] || plane != (set[1] == 0) {
				t.Errorf("%v, %d: CrossingPairs %d, IsPlane %t, want %d", c.s, set[0], count, plane, set[1])
			}
		}
	}
}

func TestCrossingPairsOfOrderSigns(t *testing.T) {
	for at, s := range orderSigns() {
		crossings := wantCrossingsOfSigns(s)
		for number, edges := range edgeSets(s.N) {
			if s.N <= 4 || edges == 0 || (number+at)%3 == 0 {
				checkCrossingPairs(t, s, edges, crossings)
			}
		}
		for _, far := range farEdgeSets(s.N) {
			if s.N <= 4 || at%8 == 0 {
				checkNoEdgeSet(t, s, far)
			}
		}
	}
}

func TestCrossingPairsOfEachSet(t *testing.T) {
	for _, s := range []impl.Signs{allPlus(5), sgn(5, "------++++"), signsOfPoints(pts(0, 0, 10, 0, 10, 9, 0, 8, 4, 3))} {
		crossings := wantCrossingsOfSigns(s)
		for edges := range 1 << edgeCounts[s.N] {
			checkCrossingPairs(t, s, edges, crossings)
		}
	}
}

// TestCrossingPairsOfTwoEdges takes each two edges alone.
func TestCrossingPairsOfTwoEdges(t *testing.T) {
	for _, s := range []impl.Signs{nested(), allPlus(6), seven(), shells(), allMinus(7)} {
		crossings := wantCrossingsOfSigns(s)
		for _, pair := range pairsOf(edgeCounts[s.N]) {
			checkCrossingPairs(t, s, setOf(pair...), crossings)
		}
	}
}

func TestEmptySetOfEdgesIsPlane(t *testing.T) {
	for _, s := range orderSigns() {
		if count, plane := impl.CrossingPairs(s, 0), impl.IsPlane(s, 0); count != 0 || !plane {
			t.Errorf("%v, the empty set: CrossingPairs %d, IsPlane %t", s, count, plane)
		}
	}
	for _, s := range []impl.Signs{{}, sgn(0, ""), sgn(3, ""), sgn(3, "0"), sgn(4, "+-+-"), sgn(5, "++++-+++++")} {
		checkNoEdgeSet(t, s, 0)
	}
}

func TestHullEdgesAndFreeEdges(t *testing.T) {
	for _, s := range orderSigns() {
		hull, free := impl.HullEdges(s), impl.FreeEdges(s)
		if want := wantHullEdges(s); hull != want {
			t.Errorf("HullEdges(%v) = %d, want %d", s, hull, want)
		}
		if want := wantFreeEdges(s.N, wantCrossingsOfSigns(s)); free != want {
			t.Errorf("FreeEdges(%v) = %d, want %d", s, free, want)
		}
		// No edge of the hull is crossed, and those that no other one crosses do not cross each other.
		if hull&^free != 0 || !impl.IsPlane(s, free) {
			t.Errorf("%v: HullEdges %d, FreeEdges %d", s, hull, free)
		}
	}
}

// TestHullEdgesFollowTheHull takes each element of the hull with the next one.
func TestHullEdgesFollowTheHull(t *testing.T) {
	for _, s := range orderSigns() {
		hull := wantHull(s)
		want := 0
		for at, e := range hull {
			want += setOf(impl.EdgeIndex(s.N, e, hull[(at+1)%len(hull)]))
		}
		if got := impl.HullEdges(s); got != want {
			t.Errorf("HullEdges(%v) = %d, want %d, the hull is %v", s, got, want, hull)
		}
	}
}

func TestEdgesOfPoints(t *testing.T) {
	for at, list := range orderPoints() {
		s, n := signsOfPoints(list), len(list)
		crossings := wantCrossingsOfPoints(list)
		for number, edges := range edgeSets(n) {
			if (number+at)%5 == 0 {
				checkCrossingPairs(t, s, edges, crossings)
			}
		}
		if got, want := impl.FreeEdges(s), wantFreeEdges(n, crossings); got != want {
			t.Errorf("FreeEdges of %v = %d, want %d", list, got, want)
		}
		hull := 0
		for k, pair := range pairsOf(n) {
			turns := map[int]bool{}
			for _, p := range list {
				turns[bigArea(list[pair[0]], list[pair[1]], p).Sign()] = true
			}
			if !turns[1] || !turns[-1] {
				hull += setOf(k)
			}
		}
		if got := impl.HullEdges(s); got != hull {
			t.Errorf("HullEdges of %v = %d, want %d", list, got, hull)
		}
	}
}

// renamedEdges returns the set of the edges between the names of the elements.
func renamedEdges(names []int, edges int) int {
	n, set := len(names), 0
	for _, k := range elementsOf(edgeCounts[n], edges) {
		i, j := impl.EdgeAt(n, k)
		set += setOf(impl.EdgeIndex(n, names[i], names[j]))
	}
	return set
}

// TestEdgesOfAlikeSigns holds because opposite signs leave all crossings, and renamed elements take their edges along.
func TestEdgesOfAlikeSigns(t *testing.T) {
	for at, s := range orderSigns() {
		opposite, renamed, names := alikeSigns(t, s)
		moved := func(edges int) int { return renamedEdges(names, edges) }
		hull, free := impl.HullEdges(s), impl.FreeEdges(s)
		if impl.HullEdges(opposite) != hull || impl.FreeEdges(opposite) != free || impl.HullEdges(renamed) != moved(hull) || impl.FreeEdges(renamed) != moved(free) {
			t.Errorf("%v: HullEdges %d, FreeEdges %d, of the opposite %d, %d, renamed %d, %d", s, hull, free, impl.HullEdges(opposite), impl.FreeEdges(opposite), impl.HullEdges(renamed), impl.FreeEdges(renamed))
		}
		sets := edgeSets(s.N)
		for number := range 6 {
			edges := sets[(at*7+number*11)%len(sets)]
			count := impl.CrossingPairs(s, edges)
			if a, b := impl.CrossingPairs(opposite, edges), impl.CrossingPairs(renamed, moved(edges)); a != count || b != count {
				t.Errorf("CrossingPairs(%v, %d) = %d, of the opposite %d, renamed %d", s, edges, count, a, b)
			}
		}
	}
}

func TestEdgesOfFarNumbers(t *testing.T) {
	for _, s := range []impl.Signs{sgn(3, "+"), sgn(4, "++++"), allPlus(5), nested(), allPlus(7), shells()} {
		for _, far := range farEdgeSets(s.N) {
			checkNoEdgeSet(t, s, far)
		}
		for _, far := range append(farNumbers(), s.N) {
			if far >= 0 && far < s.N {
				continue
			}
			for at := range 4 {
				four := []int{0, 2, 1, 3}
				four[at] = far
				if impl.DoCross(s, four[0], four[1], four[2], four[3]) {
					t.Errorf("DoCross(%v, %v) = true", s, four)
				}
			}
			if impl.DoCross(s, far, far, far, far) || impl.DoCross(s, 0, 2, far, far) || impl.DoCross(s, far, far-1, 0, 1) || impl.DoCross(s, far, 2, 1, far) {
				t.Errorf("DoCross(%v) with %d = true", s, far)
			}
		}
	}
}

func TestEdgesOfNoOrderSigns(t *testing.T) {
	for _, s := range moreDisorderSigns() {
		for _, edges := range []int{-1, 0, 1, 7, 18, 63, 1023, 1<<21 - 1, 1 << 21, math.MaxInt, math.MinInt, s.N} {
			checkNoEdgeSet(t, s, edges)
		}
		for _, f := range [][]int{{0, 1, 2, 3}, {0, 2, 1, 3}, {0, 3, 1, 2}, {0, 0, 0, 0}, {-1, -2, -3, -4}} {
			if impl.DoCross(s, f[0], f[1], f[2], f[3]) {
				t.Errorf("DoCross(%v, %v) = true", clip(s), f)
			}
		}
		if hull, free := impl.HullEdges(s), impl.FreeEdges(s); hull != 0 || free != 0 {
			t.Errorf("%v: HullEdges %d, FreeEdges %d", clip(s), hull, free)
		}
	}
}

// TestEdgesAreTheSameEachTime holds because no call keeps anything for the next one.
func TestEdgesAreTheSameEachTime(t *testing.T) {
	square, inside := sgn(4, "++++"), sgn(4, "++-+")
	for range 2 {
		if impl.HullEdges(square) != 45 || impl.FreeEdges(inside) != 63 || impl.FreeEdges(square) != 45 || impl.HullEdges(inside) != 11 || impl.CrossingPairs(square, 63) != 1 || impl.CrossingPairs(inside, 63) != 0 {
			t.Errorf("HullEdges %d, %d, FreeEdges %d, %d", impl.HullEdges(square), impl.HullEdges(inside), impl.FreeEdges(square), impl.FreeEdges(inside))
		}
	}
}
