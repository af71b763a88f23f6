package tests

import (
	"math"
	"math/bits"
	"slices"
	"strings"
	"sync"
	"testing"

	"loop.example/g03104/impl"
)

// triangulated has order signs of at most 6 elements and their triangulations in ascending order.
type triangulated struct {
	s    impl.Signs
	sets []int
}

// wantTriangulations returns the sets of edges without crossings of which no set with one more edge has none either.
func wantTriangulations(n int, crossings [][]int) []int {
	plane := make([]bool, 1<<edgeCounts[n])
	for edges := range plane {
		plane[edges] = true
		for _, pair := range crossings {
			plane[edges] = plane[edges] && (edges>>pair[0]%2 == 0 || edges>>pair[1]%2 == 0)
		}
	}
	var sets []int
	for edges := range plane {
		found := plane[edges]
		for k := range edgeCounts[n] {
			found = found && (edges>>k%2 == 1 || !plane[edges+1<<k])
		}
		if found {
			sets = append(sets, edges)
		}
	}
	return sets
}

// triangulatedSigns has all of orderSigns with at most 6 elements.
var triangulatedSigns = sync.OnceValue(func() []triangulated {
	var list []triangulated
	for _, s := range orderSigns() {
		if s.N <= 6 {
			list = append(list, triangulated{s, wantTriangulations(s.N, wantCrossingsOfSigns(s))})
		}
	}
	return list
})

// wantFlip looks for the triangulations that have another edge in the place of edge k.
func (want triangulated) wantFlip(edges int, k int) (int, bool) {
	var found []int
	for other := range edgeCounts[want.s.N] {
		if edges>>other%2 == 0 && slices.Contains(want.sets, edges-1<<k+1<<other) {
			found = append(found, edges-1<<k+1<<other)
		}
	}
	if len(found) != 1 {
		return 0, false
	}
	return found[0], true
}

func (want triangulated) wantFlipsFrom(edges int) []int {
	var flips []int
	for _, k := range elementsOf(edgeCounts[want.s.N], edges) {
		if flipped, ok := want.wantFlip(edges, k); ok {
			flips = append(flips, flipped)
		}
	}
	slices.Sort(flips)
	return flips
}

// wantDistances returns for each two triangulations the least number of flips between them.
func (want triangulated) wantDistances() [][]int {
	count := len(want.sets)
	table := make([][]int, count)
	for at, edges := range want.sets {
		table[at] = slices.Repeat([]int{math.MaxInt / 2}, count)
		table[at][at] = 0
		for _, flipped := range want.wantFlipsFrom(edges) {
			table[at][slices.Index(want.sets, flipped)] = 1
		}
	}
	for by := range count {
		for number := range count * count {
			from, to := number/count, number%count
			table[from][to] = min(table[from][to], table[from][by]+table[by][to])
		}
	}
	return table
}

// trianglesIn returns the ascending lists of three elements of which all three edges are in the set.
func trianglesIn(n int, edges int) [][]int {
	pairs := pairsOf(n)
	has := func(i int, j int) bool {
		k := slices.IndexFunc(pairs, func(pair []int) bool { return pair[0] == i && pair[1] == j })
		return edges>>k%2 == 1
	}
	return slices.DeleteFunc(ascendingThrees(n), func(t []int) bool {
		return !has(t[0], t[1]) || !has(t[0], t[2]) || !has(t[1], t[2])
	})
}

func wantTrianglesOf(s impl.Signs, edges int) int {
	return len(slices.DeleteFunc(trianglesIn(s.N, edges), func(t []int) bool {
		return wantCountInside(s, t[0], t[1], t[2]) != 0
	}))
}

// checkNoTriangulation expects the results of a set of edges that is no triangulation, or of signs that have none.
func checkNoTriangulation(t *testing.T, s impl.Signs, edges int, others ...int) {
	t.Helper()
	if impl.IsTriangulation(s, edges) {
		t.Errorf("IsTriangulation(%v, %d) = true", clip(s), edges)
	}
	for _, k := range []int{-1, 0, 1, 2, 9, 14, 15, 63, 64, math.MinInt} {
		if flipped, ok := impl.FlipEdge(s, edges, k); flipped != 0 || ok {
			t.Errorf("FlipEdge(%v, %d, %d) = %d, %t", clip(s), edges, k, flipped, ok)
		}
	}
	if flips, count := impl.FlipsFrom(s, edges), impl.TrianglesOf(s, edges); len(flips) != 0 || count != -1 {
		t.Errorf("%v, %d: FlipsFrom %v, TrianglesOf %d", clip(s), edges, flips, count)
	}
	for _, other := range append(others, edges, 0) {
		if to, from := impl.FlipDistance(s, edges, other), impl.FlipDistance(s, other, edges); to != -1 || from != -1 {
			t.Errorf("FlipDistance(%v) of %d and %d = %d, back %d", clip(s), edges, other, to, from)
		}
	}
}

func TestTriangulations(t *testing.T) {
	cases := []struct {
		s         impl.Signs
		sets      []int
		edges     int
		triangles int
	}{
		// One triangle has one triangulation, and so have three triangles around an element.
		{sgn(3, "+"), []int{7}, 3, 1},
		{sgn(3, "-"), []int{7}, 3, 1},
		{sgn(4, "++-+"), []int{63}, 6, 3},
		{sgn(4, "+---"), []int{63}, 6, 3},
		// A square has two, each without one of the diagonals.
		{sgn(4, "++++"), []int{47, 61}, 5, 2},
		{sgn(4, "----"), []int{47, 61}, 5, 2},
		{sgn(4, "+--+"), []int{31, 62}, 5, 2},
		{sgn(4, "++--"), []int{55, 59}, 5, 2},
		// A pentagon has 665 and two of the diagonals 2, 4, 32, 64 and 256.
		{allPlus(5), []int{665 + 2 + 4, 665 + 4 + 32, 665 + 32 + 64, 665 + 2 + 256, 665 + 64 + 256}, 7, 3},
		{allMinus(5), []int{671, 701, 761, 923, 985}, 7, 3},
		{sgn(5, "------++++"), []int{735 + 32, 735 + 256}, 9, 5},
		// The edges 02 and 13 cross each other, and each of them crosses one of 24 and 34.
		{signsOfPoints(pts(0, 0, 10, 0, 10, 9, 0, 8, 4, 3)), []int{221 + 2 + 256, 221 + 32 + 512, 221 + 256 + 512}, 8, 4},
		// All edges but 8 or 64, 16 or 512, 256 or 1024.
		{nested(), []int{30887 + 8 + 16 + 256, 30887 + 16 + 64 + 256, 30887 + 8 + 256 + 512, 30887 + 64 + 256 + 512, 30887 + 8 + 16 + 1024, 30887 + 16 + 64 + 1024, 30887 + 8 + 512 + 1024, 30887 + 64 + 512 + 1024}, 12, 7},
		{allPlus(6), []int{21055, 21117, 21241, 21489, 22075, 22201, 22449, 24115, 24369, 29239, 29301, 29553, 31283, 31537}, 9, 4},
		{allMinus(6), []int{21055, 21117, 21241, 21489, 22075, 22201, 22449, 24115, 24369, 29239, 29301, 29553, 31283, 31537}, 9, 4},
	}
	for _, c := range cases {
		if got := impl.Triangulations(c.s); !slices.Equal(got, c.sets) {
			t.Errorf("Triangulations(%v) = %v, want %v", c.s, got, c.sets)
		}
		for _, edges := range c.sets {
			if !impl.IsTriangulation(c.s, edges) || bits.OnesCount(uint(edges)) != c.edges || impl.TrianglesOf(c.s, edges) != c.triangles {
				t.Errorf("%v, %d: IsTriangulation %t, TrianglesOf %d", c.s, edges, impl.IsTriangulation(c.s, edges), impl.TrianglesOf(c.s, edges))
			}
		}
	}
}

func TestTriangulationsOfOrderSigns(t *testing.T) {
	for _, want := range triangulatedSigns() {
		s := want.s
		if got := impl.Triangulations(s); !slices.Equal(got, want.sets) {
			t.Errorf("Triangulations(%v) = %v, want %v", s, got, want.sets)
		}
		for _, edges := range want.sets {
			if !impl.IsTriangulation(s, edges) {
				t.Errorf("IsTriangulation(%v, %d) = false", s, edges)
			}
			if got, count := impl.TrianglesOf(s, edges), wantTrianglesOf(s, edges); got != count {
				t.Errorf("TrianglesOf(%v, %d) = %d, want %d", s, edges, got, count)
			}
		}
	}
}

// TestIsTriangulationOfEachSet takes all sets of at most 4 elements and of some signs of 5, and of the others those that differ from a triangulation in one or two edges.
func TestIsTriangulationOfEachSet(t *testing.T) {
	for at, want := range triangulatedSigns() {
		count := edgeCounts[want.s.N]
		sets := edgeSets(want.s.N)
		for _, edges := range want.sets {
			k := at % count
			sets = append(sets, edges, edges^1<<k, edges^1<<k^1<<((k+at/count)%count), edges^1<<((k+3)%count))
		}
		if want.s.N == 5 && at%20 == 0 {
			for edges := range 1024 {
				sets = append(sets, edges)
			}
		}
		for _, edges := range sets {
			if got := impl.IsTriangulation(want.s, edges); got != slices.Contains(want.sets, edges) {
				t.Errorf("IsTriangulation(%v, %d) = %t, they are %v", want.s, edges, got, want.sets)
			}
		}
	}
}

// TestAllTriangulationsHaveAsManyEdges asks the promise itself, with the numbers of edges and triangles that the document names.
func TestAllTriangulationsHaveAsManyEdges(t *testing.T) {
	for _, want := range triangulatedSigns() {
		s := want.s
		sets := impl.Triangulations(s)
		if len(sets) == 0 || !slices.IsSorted(sets) || len(slices.Compact(slices.Clone(sets))) != len(sets) {
			t.Errorf("Triangulations(%v) = %v", s, sets)
		}
		size, certain := impl.HullSize(s), impl.HullEdges(s)|impl.FreeEdges(s)
		for _, edges := range sets {
			if got := bits.OnesCount(uint(edges)); got != 3*s.N-3-size {
				t.Errorf("%v: triangulation %d has %d edges, the hull has %d elements", s, edges, got, size)
			}
			if got := impl.TrianglesOf(s, edges); got != 2*s.N-2-size {
				t.Errorf("TrianglesOf(%v, %d) = %d, the hull has %d elements", s, edges, got, size)
			}
			if edges&certain != certain || !impl.IsPlane(s, edges) {
				t.Errorf("%v: triangulation %d, the edges %d are in each one, IsPlane %t", s, edges, certain, impl.IsPlane(s, edges))
			}
			for k := range edgeCounts[s.N] {
				if edges>>k%2 == 0 && impl.IsPlane(s, edges+1<<k) {
					t.Errorf("%v: triangulation %d leaves room for edge %d", s, edges, k)
				}
			}
		}
	}
}

// TestTriangulationsOfARoundOrder counts those of polygons, in whatever order their elements have names.
func TestTriangulationsOfARoundOrder(t *testing.T) {
	counts := []int{3: 1, 4: 2, 5: 5, 6: 14}
	farthest := []int{3: 0, 4: 1, 5: 2, 6: 4}
	for n := 3; n <= 6; n++ {
		eachOrder(n, func(names []int) {
			if n == 6 && (names[0] != 2 || names[1] > 3) {
				return
			}
			s, ok := impl.RenameSigns(allPlus(n), names)
			sets := impl.Triangulations(s)
			if !ok || len(sets) != counts[n] {
				t.Fatalf("Triangulations(%v) = %v", s, sets)
			}
			greatest := 0
			for _, edges := range sets {
				// All diagonals can be flipped, and no side.
				if flips := impl.FlipsFrom(s, edges); len(flips) != n-3 {
					t.Errorf("FlipsFrom(%v, %d) = %v", s, edges, flips)
				}
				greatest = max(greatest, impl.FlipDistance(s, sets[0], edges), impl.FlipDistance(s, sets[len(sets)/2], edges))
			}
			if greatest > farthest[n] || n <= 5 && greatest != farthest[n] {
				t.Errorf("%v: the greatest FlipDistance is %d", s, greatest)
			}
		})
	}
}

// TestTriangulationsOfPoints tells by areas alone that the triangles of each triangulation fill the hull.
func TestTriangulationsOfPoints(t *testing.T) {
	for _, list := range orderPoints() {
		if len(list) > 6 {
			continue
		}
		s := signsOfPoints(list)
		want := wantTriangulations(len(list), wantCrossingsOfPoints(list))
		if got := impl.Triangulations(s); !slices.Equal(got, want) {
			t.Errorf("Triangulations of %v = %v, want %v", list, got, want)
		}
		hull, whole := wantHull(s), int64(0)
		for at := 2; at < len(hull); at++ {
			whole += bigArea(list[hull[0]], list[hull[at-1]], list[hull[at]]).Int64()
		}
		for _, edges := range want {
			empty, filled := 0, int64(0)
			for _, three := range trianglesIn(len(list), edges) {
				a, b, c := list[three[0]], list[three[1]], list[three[2]]
				if !slices.ContainsFunc(list, func(p impl.Point) bool { return wantInTriangle(p, a, b, c) }) {
					empty++
					area := bigArea(a, b, c)
					filled += area.Abs(area).Int64()
				}
			}
			if got := impl.TrianglesOf(s, edges); got != empty || filled != whole {
				t.Errorf("TrianglesOf(%v, %d) = %d, want %d with the area %d of %d", list, edges, got, empty, filled, whole)
			}
		}
	}
}

func TestFlips(t *testing.T) {
	square, pentagon, mixed := sgn(4, "++++"), allPlus(5), sgn(5, "------++++")
	cases := []struct {
		s        impl.Signs
		edges, k int
		want     int
		ok       bool
	}{
		// The diagonals of the square are the edges 1 and 4.
		{square, 47, 1, 61, true}, {square, 61, 4, 47, true}, {square, 47, 4, 0, false}, {square, 61, 1, 0, false}, {square, 47, 0, 0, false}, {square, 47, 2, 0, false}, {square, 47, 3, 0, false}, {square, 47, 5, 0, false}, {square, 47, 6, 0, false}, {square, 47, -1, 0, false},
		{square, 45, 1, 0, false}, {square, 45, 0, 0, false}, {square, 63, 1, 0, false}, {square, 63, 4, 0, false}, {square, 0, 0, 0, false}, {square, -1, 1, 0, false}, {square, 47 + 64, 1, 0, false},
		{sgn(4, "+--+"), 31, 0, 62, true}, {sgn(4, "+--+"), 62, 5, 31, true}, {sgn(4, "+--+"), 31, 5, 0, false},
		{sgn(3, "+"), 7, 0, 0, false}, {sgn(3, "+"), 7, 1, 0, false}, {sgn(3, "+"), 7, 2, 0, false}, {sgn(3, "+"), 7, 3, 0, false}, {sgn(3, "+"), 6, 0, 0, false},
		// No inner edge of three triangles around an element has another one in its place.
		{sgn(4, "++-+"), 63, 0, 0, false}, {sgn(4, "++-+"), 63, 2, 0, false}, {sgn(4, "++-+"), 63, 4, 0, false}, {sgn(4, "++-+"), 63, 5, 0, false},
		{pentagon, 671, 1, 701, true}, {pentagon, 671, 2, 923, true}, {pentagon, 671, 0, 0, false}, {pentagon, 671, 5, 0, false}, {pentagon, 923, 8, 671, true}, {pentagon, 985, 6, 923, true}, {pentagon, 985, 8, 761, true},
		{mixed, 767, 5, 991, true}, {mixed, 991, 8, 767, true}, {mixed, 767, 8, 0, false}, {mixed, 767, 1, 0, false},
		{nested(), 31167, 3, 31223, true}, {nested(), 31167, 4, 31663, true}, {nested(), 31167, 8, 31935, true}, {nested(), 31167, 0, 0, false},
		{allPlus(6), 21055, 1, 21117, true}, {allPlus(6), 21055, 2, 22075, true}, {allPlus(6), 21055, 3, 29239, true}, {allPlus(6), 21055, 14, 0, false}, {allPlus(6), 21055, 15, 0, false},
	}
	for _, c := range cases {
		if got, ok := impl.FlipEdge(c.s, c.edges, c.k); got != c.want || ok != c.ok {
			t.Errorf("FlipEdge(%v, %d, %d) = %d, %t, want %d, %t", c.s, c.edges, c.k, got, ok, c.want, c.ok)
		}
	}
	lists := []struct {
		s     impl.Signs
		edges int
		want  []int
	}{
		{sgn(3, "+"), 7, nil}, {sgn(4, "++-+"), 63, nil}, {square, 47, []int{61}}, {square, 61, []int{47}}, {square, 45, nil}, {square, 63, nil}, {square, 0, nil},
		{pentagon, 671, []int{701, 923}},
		// The flip of edge 5 gives 985, that of edge 6 gives 701.
		{pentagon, 761, []int{701, 985}}, {mixed, 767, []int{991}},
		{nested(), 32487, []int{31719, 31991, 32431}}, {allPlus(6), 21055, []int{21117, 22075, 29239}}, {allPlus(6), 31537, []int{24369, 29553, 31283}},
	}
	for _, c := range lists {
		if got := impl.FlipsFrom(c.s, c.edges); !slices.Equal(got, c.want) {
			t.Errorf("FlipsFrom(%v, %d) = %v, want %v", c.s, c.edges, got, c.want)
		}
	}
}

func TestFlipDistance(t *testing.T) {
	square, hexagon := sgn(4, "++++"), allPlus(6)
	cases := []struct {
		s          impl.Signs
		a, b, want int
	}{
		{sgn(3, "+"), 7, 7, 0}, {sgn(3, "-"), 7, 7, 0}, {sgn(3, "+"), 7, 3, -1}, {sgn(3, "+"), 0, 0, -1}, {sgn(4, "++-+"), 63, 63, 0},
		{square, 47, 61, 1}, {square, 61, 47, 1}, {square, 47, 47, 0}, {square, 47, 45, -1}, {square, 45, 47, -1}, {square, 45, 45, -1}, {square, 63, 63, -1}, {square, 0, 0, -1}, {square, 47, 63, -1}, {square, -1, 47, -1}, {square, 47, 47 + 64, -1},
		{allPlus(5), 671, 701, 1}, {allPlus(5), 671, 761, 2}, {allPlus(5), 671, 985, 2}, {allPlus(5), 985, 671, 2}, {allPlus(5), 671, 923, 1},
		// All three diagonals differ, but no three flips exchange them.
		{hexagon, 21117, 24369, 4}, {hexagon, 24369, 21117, 4}, {hexagon, 22075, 29553, 4}, {hexagon, 22449, 29239, 4}, {hexagon, 21241, 31283, 4}, {hexagon, 21055, 31537, 3}, {hexagon, 21055, 21055, 0},
		{nested(), 31167, 32487, 3}, {nested(), 31223, 32431, 3}, {nested(), 31167, 31719, 2},
	}
	for _, c := range cases {
		if got := impl.FlipDistance(c.s, c.a, c.b); got != c.want {
			t.Errorf("FlipDistance(%v, %d, %d) = %d, want %d", c.s, c.a, c.b, got, c.want)
		}
	}
}

func TestFlipsOfOrderSigns(t *testing.T) {
	for at, want := range triangulatedSigns() {
		for number, edges := range want.sets {
			if (at+number)%3 != 0 && want.s.N >= 5 {
				continue
			}
			for k := -1; k <= edgeCounts[want.s.N]; k++ {
				flipped, can := 0, false
				if k >= 0 && edges>>k%2 == 1 {
					flipped, can = want.wantFlip(edges, k)
				}
				if got, ok := impl.FlipEdge(want.s, edges, k); got != flipped || ok != can {
					t.Errorf("FlipEdge(%v, %d, %d) = %d, %t, want %d, %t", want.s, edges, k, got, ok, flipped, can)
				}
			}
			if got, flips := impl.FlipsFrom(want.s, edges), want.wantFlipsFrom(edges); !slices.Equal(got, flips) {
				t.Errorf("FlipsFrom(%v, %d) = %v, want %v", want.s, edges, got, flips)
			}
		}
	}
}

// TestFlipsLeadBack holds because the edge that is new can be flipped as well.
func TestFlipsLeadBack(t *testing.T) {
	for at, want := range triangulatedSigns() {
		edges := want.sets[at%len(want.sets)]
		for _, flipped := range impl.FlipsFrom(want.s, edges) {
			added := bits.TrailingZeros(uint(flipped &^ edges))
			if back, ok := impl.FlipEdge(want.s, flipped, added); back != edges || !ok {
				t.Errorf("FlipEdge(%v, %d, %d) = %d, %t, want %d", want.s, flipped, added, back, ok, edges)
			}
		}
	}
}

func TestFlipDistancesOfOrderSigns(t *testing.T) {
	for at, want := range triangulatedSigns() {
		table, count := want.wantDistances(), len(want.sets)
		for number := range count * count {
			from, to := number/count, number%count
			if table[from][to] >= count {
				t.Fatalf("%v: no way from %d to %d", want.s, want.sets[from], want.sets[to])
			}
			if count > 6 && (number+at)%3 != 0 {
				continue
			}
			if got := impl.FlipDistance(want.s, want.sets[from], want.sets[to]); got != table[from][to] {
				t.Errorf("FlipDistance(%v, %d, %d) = %d, want %d", want.s, want.sets[from], want.sets[to], got, table[from][to])
			}
		}
	}
}

// TestNoTriangulations takes sets of edges that cross or leave room, the empty one among them, and numbers that are no sets of edges.
func TestNoTriangulations(t *testing.T) {
	for at, want := range triangulatedSigns() {
		if want.s.N >= 5 && at%9 != 0 {
			continue
		}
		one := want.sets[at%len(want.sets)]
		sets := append(farEdgeSets(want.s.N), one-1<<(at%edgeCounts[want.s.N]), one+1<<edgeCounts[want.s.N], one+1<<40, one+1<<62, one+math.MinInt, -one)
		for _, edges := range append(sets, edgeSets(want.s.N)...) {
			if !slices.Contains(want.sets, edges) {
				checkNoTriangulation(t, want.s, edges, one)
			}
		}
	}
}

func TestFlipEdgeOfFarNumbers(t *testing.T) {
	for _, s := range []impl.Signs{sgn(3, "+"), sgn(4, "++++"), allPlus(5), nested(), allPlus(6)} {
		for _, edges := range impl.Triangulations(s) {
			for _, far := range append(farNumbers(), 15, 16, 21, 62, 66, 128, -63, -64, math.MinInt+1, math.MinInt+64) {
				if far >= 0 && far < edgeCounts[s.N] {
					continue
				}
				if flipped, ok := impl.FlipEdge(s, edges, far); flipped != 0 || ok {
					t.Errorf("FlipEdge(%v, %d, %d) = %d, %t", s, edges, far, flipped, ok)
				}
			}
		}
	}
}

// TestTriangulationsOfTooManyElements takes sets of edges of 7 elements without crossings that leave no room.
func TestTriangulationsOfTooManyElements(t *testing.T) {
	for _, s := range []impl.Signs{allPlus(7), allMinus(7), seven(), shells()} {
		if got := impl.Triangulations(s); len(got) != 0 {
			t.Errorf("Triangulations(%v) = %v", s, got)
		}
		filled := 0
		for k := range edgeCounts[7] {
			if impl.IsPlane(s, filled+1<<k) {
				filled += 1 << k
			}
		}
		if got := bits.OnesCount(uint(filled)); got != 3*7-3-impl.HullSize(s) {
			t.Errorf("%v: %d has %d edges", s, filled, got)
		}
		for _, edges := range []int{filled, impl.HullEdges(s), impl.FreeEdges(s), 0, 7, 63, 32767, 1<<21 - 1, 1 << 21, -1} {
			checkNoTriangulation(t, s, edges, filled)
		}
	}
}

func TestTriangulationsOfNoOrderSigns(t *testing.T) {
	for _, s := range moreDisorderSigns() {
		if got := impl.Triangulations(s); len(got) != 0 {
			t.Errorf("Triangulations(%v) = %v", clip(s), got)
		}
		for _, edges := range []int{-1, 0, 7, 47, 61, 63, 671, 21055, math.MaxInt, math.MinInt, s.N} {
			checkNoTriangulation(t, s, edges, 47, 63)
		}
	}
}

// TestTriangulationsOfAlikeSigns holds because opposite signs leave all crossings, and renamed elements take their edges along.
func TestTriangulationsOfAlikeSigns(t *testing.T) {
	for at, want := range triangulatedSigns() {
		opposite, renamed, names := alikeSigns(t, want.s)
		var moved []int
		for _, edges := range want.sets {
			moved = append(moved, renamedEdges(names, edges))
		}
		a, b := at%len(want.sets), at/2%len(want.sets)
		distance := impl.FlipDistance(want.s, want.sets[a], want.sets[b])
		if got := impl.FlipDistance(renamed, moved[a], moved[b]); got != distance {
			t.Errorf("FlipDistance(%v, %d, %d) = %d, before the elements have other names %d", renamed, moved[a], moved[b], got, distance)
		}
		slices.Sort(moved)
		if mirrored, got := impl.Triangulations(opposite), impl.Triangulations(renamed); !slices.Equal(mirrored, want.sets) || !slices.Equal(got, moved) {
			t.Errorf("Triangulations(%v) of the opposite %v, want %v, renamed %v, want %v", want.s, mirrored, want.sets, got, moved)
		}
	}
}

// wantEdgesText asks for a set of edges.
func wantEdgesText(n int, edges int) string {
	var list []string
	for k, pair := range pairsOf(n) {
		if edges/(1<<k)%2 == 1 {
			list = append(list, string([]byte{byte('0' + pair[0]), byte('0' + pair[1])}))
		}
	}
	if len(list) == 0 {
		return "-"
	}
	return strings.Join(list, " ")
}

func TestEdgesText(t *testing.T) {
	cases := []struct {
		n, edges int
		want     string
	}{
		{3, 0, "-"}, {3, 1, "01"}, {3, 2, "02"}, {3, 4, "12"}, {3, 6, "02 12"}, {3, 7, "01 02 12"}, {3, 8, ""}, {3, -1, ""},
		{4, 0, "-"}, {4, 47, "01 02 03 12 23"}, {4, 61, "01 03 12 13 23"}, {4, 18, "02 13"}, {4, 63, "01 02 03 12 13 23"}, {4, 64, ""}, {4, 64 + 47, ""},
		{5, 671, "01 02 03 04 12 23 34"}, {5, 1023, "01 02 03 04 12 13 14 23 24 34"}, {5, 1024, ""},
		{6, 16384, "45"}, {6, 32767, "01 02 03 04 05 12 13 14 15 23 24 25 34 35 45"}, {6, 32768, ""},
		{7, 0, "-"}, {7, 1<<20 + 1, "01 56"}, {7, 1<<21 - 1, "01 02 03 04 05 06 12 13 14 15 16 23 24 25 26 34 35 36 45 46 56"}, {7, 1 << 21, ""}, {7, -1, ""},
		{2, 0, ""}, {2, 1, ""}, {8, 0, ""}, {8, 1, ""}, {0, 0, ""}, {-1, 0, ""}, {0, -1, ""},
	}
	for _, c := range cases {
		if got := impl.EdgesText(c.n, c.edges); got != c.want {
			t.Errorf("EdgesText(%d, %d) = %q, want %q", c.n, c.edges, got, c.want)
		}
	}
}

func TestEdgesTextOfEachSet(t *testing.T) {
	for n := 3; n <= 7; n++ {
		sets := edgeSets(n)
		if n == 5 {
			for edges := range 1024 {
				sets = append(sets, edges)
			}
		}
		for _, edges := range sets {
			if got, want := impl.EdgesText(n, edges), wantEdgesText(n, edges); got != want {
				t.Errorf("EdgesText(%d, %d) = %q, want %q", n, edges, got, want)
			}
		}
		for _, far := range farEdgeSets(n) {
			if got := impl.EdgesText(n, far); got != "" {
				t.Errorf("EdgesText(%d, %d) = %q", n, far, got)
			}
		}
	}
}

func TestEdgesTextOfTooFewOrTooManyElements(t *testing.T) {
	for _, n := range []int{0, 1, 2, 8, 9, 63, 64, 65, -1, -3, -7, 1 << 32, 1<<32 + 3, 1<<62 + 3, math.MaxInt, math.MinInt, math.MinInt + 3} {
		for _, edges := range []int{-2, -1, 0, 1, 2, 7, 63, 1<<21 - 1, 1 << 28, math.MaxInt, math.MinInt, n} {
			if got := impl.EdgesText(n, edges); got != "" {
				t.Errorf("EdgesText(%d, %d) = %q", n, edges, got)
			}
		}
	}
}

func TestTriangulationsAreNewEachTime(t *testing.T) {
	pentagon := allPlus(5)
	want := [][]int{{671, 701, 761, 923, 985}, {701, 923}, {61}, {47, 61}}
	for range 2 {
		got := [][]int{impl.Triangulations(pentagon), impl.FlipsFrom(pentagon, 671), impl.FlipsFrom(sgn(4, "++++"), 47), impl.Triangulations(sgn(4, "++++"))}
		if !slices.EqualFunc(got, want, slices.Equal) || impl.FlipDistance(pentagon, 671, 985) != 2 {
			t.Errorf("%v, want %v, FlipDistance %d", got, want, impl.FlipDistance(pentagon, 671, 985))
		}
		checkApart(t, got, want)
	}
}
