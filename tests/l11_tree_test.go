package tests

import (
	"math"
	"math/bits"
	"slices"
	"strings"
	"sync"
	"testing"

	"loop.example/g03104/impl"
)

// formNames are the names of the functions that return sets of edges of one form, in the order of forms.
var formNames = []string{"PlaneTrees", "PlanePaths", "PolygonsOf", "PlaneMatchings"}

// forms has for each name the ascending sets of edges of its form.
type forms [][]int

func formsOf(s impl.Signs) forms {
	return forms{impl.PlaneTrees(s), impl.PlanePaths(s), impl.PolygonsOf(s), impl.PlaneMatchings(s)}
}

func checkForms(t *testing.T, s impl.Signs, got forms, want forms) {
	t.Helper()
	for at, name := range formNames {
		if !slices.Equal(got[at], want[at]) {
			t.Errorf("%s(%v) = %v, want %v", name, clip(s), got[at], want[at])
		}
	}
}

func checkNoForms(t *testing.T, s impl.Signs) {
	t.Helper()
	checkForms(t, s, formsOf(s), make(forms, len(formNames)))
}

// edgeTable has in row i and column j the set of the edge of i and j.
func edgeTable(n int) [][]int {
	table := make([][]int, n)
	for i := range table {
		table[i] = make([]int, n)
	}
	for k, pair := range pairsOf(n) {
		table[pair[0]][pair[1]] = setOf(k)
		table[pair[1]][pair[0]] = setOf(k)
	}
	return table
}

// wantTrees builds each tree from the list of n - 2 elements that codes it: the least element with one edge left is joined to the first one of the list, then again to the next one, and at the end the last two are joined.
func wantTrees(n int) []int {
	table := edgeTable(n)
	var trees []int
	for number := range int(math.Pow(float64(n), float64(n-2))) {
		left := slices.Repeat([]int{1}, n)
		var code []int
		for range n - 2 {
			code = append(code, number%n)
			left[number%n]++
			number /= n
		}
		tree := 0
		for _, e := range code {
			leaf := slices.Index(left, 1)
			tree += table[leaf][e]
			left[leaf]--
			left[e]--
		}
		last := slices.Index(left, 1)
		trees = append(trees, tree+table[last][last+1+slices.Index(left[last+1:], 1)])
	}
	slices.Sort(trees)
	return trees
}

// wantAllForms has for 3 to 6 elements all sets of each form, with crossings or without; paths, polygons and matchings go along each order of the elements.
var wantAllForms = sync.OnceValue(func() map[int]forms {
	all := map[int]forms{}
	for n := 3; n <= 6; n++ {
		table := edgeTable(n)
		list := forms{wantTrees(n), nil, nil, nil}
		eachOrder(n, func(order []int) {
			path, matching := 0, 0
			for at := range n - 1 {
				edge := table[order[at]][order[at+1]]
				path += edge
				matching += edge * (1 - at%2)
			}
			list[1] = append(list[1], path)
			list[2] = append(list[2], path+table[order[n-1]][order[0]])
			if n%2 == 0 {
				list[3] = append(list[3], matching)
			}
		})
		for at := range list {
			slices.Sort(list[at])
			list[at] = slices.Compact(list[at])
		}
		all[n] = list
	}
	return all
})

// wantForms leaves those of at most 6 elements in which no two edges cross.
func wantForms(n int, crossings [][]int) forms {
	var left forms
	for _, sets := range wantAllForms()[n] {
		left = append(left, slices.DeleteFunc(slices.Clone(sets), func(edges int) bool {
			return slices.ContainsFunc(crossings, func(pair []int) bool { return edges>>pair[0]%2 == 1 && edges>>pair[1]%2 == 1 })
		}))
	}
	return left
}

// fewOrderSigns has all of orderSigns with at most 6 elements.
func fewOrderSigns() []impl.Signs {
	return slices.DeleteFunc(slices.Clone(orderSigns()), func(s impl.Signs) bool { return s.N > 6 })
}

func TestPlaneSetsOfThreeAndFourElements(t *testing.T) {
	// All trees of four elements but the stars 7, 25, 42 and 52 are paths.
	whole := forms{
		{7, 13, 14, 19, 22, 25, 26, 28, 35, 37, 41, 42, 44, 49, 50, 52},
		{13, 14, 19, 22, 26, 28, 35, 37, 41, 44, 49, 50}, {30, 45, 51}, {12, 18, 33},
	}
	cases := []struct {
		s    impl.Signs
		want forms
	}{
		// Each two sides of one triangle are a tree and a path, all three are a polygon, and three elements cannot be matched.
		{sgn(3, "+"), forms{{3, 5, 6}, {3, 5, 6}, {7}, nil}},
		{sgn(3, "-"), forms{{3, 5, 6}, {3, 5, 6}, {7}, nil}},
		// No edges cross where one element lies inside the triangle of the others.
		{sgn(4, "++-+"), whole}, {sgn(4, "+---"), whole}, {sgn(4, "-+++"), whole}, {sgn(4, "--+-"), whole},
		// The diagonals of a square, here 2 and 16, then 1 and 32, then 4 and 8, are never together.
		{sgn(4, "++++"), forms{{7, 13, 14, 25, 28, 35, 37, 41, 42, 44, 49, 52}, {13, 14, 28, 35, 37, 41, 44, 49}, {45}, {12, 33}}},
		{sgn(4, "----"), forms{{7, 13, 14, 25, 28, 35, 37, 41, 42, 44, 49, 52}, {13, 14, 28, 35, 37, 41, 44, 49}, {45}, {12, 33}}},
		{sgn(4, "+--+"), forms{{7, 13, 14, 19, 22, 25, 26, 28, 42, 44, 50, 52}, {13, 14, 19, 22, 26, 28, 44, 50}, {30}, {12, 18}}},
		{sgn(4, "++--"), forms{{7, 19, 22, 25, 26, 35, 37, 41, 42, 49, 50, 52}, {19, 22, 26, 35, 37, 41, 49, 50}, {51}, {18, 33}}},
	}
	for _, c := range cases {
		checkForms(t, c.s, formsOf(c.s), c.want)
	}
}

func TestPlaneSetsOfFiveAndSixElements(t *testing.T) {
	cases := []struct {
		s                   impl.Signs
		trees, paths        int
		polygons, matchings []int
	}{
		{allPlus(5), 55, 20, []int{665}, nil},
		{allMinus(5), 55, 20, []int{665}, nil},
		// Only the edges 32 and 256 cross: they are together in 20 of all 125 trees, in 12 of all 60 paths, and in 4 of all 12 polygons.
		{sgn(5, "------++++"), 105, 48, []int{220, 234, 453, 570, 598, 665, 707, 789}, nil},
		{allPlus(6), 273, 48, []int{21041}, []int{656, 4144, 6145, 16420, 16897}},
		{allMinus(6), 273, 48, []int{21041}, []int{656, 4144, 6145, 16420, 16897}},
		// The edges 8 and 64, 16 and 512, 256 and 1024 cross, so three of all 15 matchings do.
		{nested(), 891, 228, []int{2956, 3284, 6324, 6534, 6921, 7249, 9098, 9426, 10412, 11397, 12466, 12586, 13361, 14377, 14467, 17196, 17524, 18630, 19077, 20594, 20774, 21251, 22565, 22595, 24742, 25129, 25219, 25637, 25667}, []int{776, 1104, 2180, 4144, 4354, 6145, 8232, 8322, 9217, 16420, 16450, 16897}},
	}
	for _, c := range cases {
		got := formsOf(c.s)
		if len(got[0]) != c.trees || len(got[1]) != c.paths {
			t.Errorf("%v: %d trees, %d paths, want %d, %d", c.s, len(got[0]), len(got[1]), c.trees, c.paths)
		}
		checkForms(t, c.s, got, forms{got[0], got[1], c.polygons, c.matchings})
	}
}

func TestPlaneSetsOfOrderSigns(t *testing.T) {
	for _, s := range fewOrderSigns() {
		checkForms(t, s, formsOf(s), wantForms(s.N, wantCrossingsOfSigns(s)))
	}
}

func TestPlaneSetsOfPoints(t *testing.T) {
	for _, list := range orderPoints() {
		if len(list) <= 6 {
			s := signsOfPoints(list)
			checkForms(t, s, formsOf(s), wantForms(len(list), wantCrossingsOfPoints(list)))
		}
	}
}

// TestPlaneTreesArePlane asks the promise itself, with all that the document says of each form; it also asks that no plane tree is left out, of 6 elements with some of the trees only.
func TestPlaneTreesArePlane(t *testing.T) {
	for at, s := range fewOrderSigns() {
		got := formsOf(s)
		least, greatest, size := []int{1, 1, 2, 1}, []int{s.N - 1, 2, 2, 1}, []int{s.N - 1, s.N - 1, s.N, s.N / 2}
		for form, name := range formNames {
			sets := got[form]
			if !slices.IsSorted(sets) || len(slices.Compact(slices.Clone(sets))) != len(sets) {
				t.Errorf("%s(%v) = %v", name, s, sets)
			}
			for _, edges := range sets {
				degrees := impl.DegreesOf(s.N, edges)
				if !impl.IsPlane(s, edges) || bits.OnesCount(uint(edges)) != size[form] || slices.Min(degrees) < least[form] || slices.Max(degrees) > greatest[form] {
					t.Errorf("%s(%v) has %d: IsPlane %t, DegreesOf %v", name, s, edges, impl.IsPlane(s, edges), degrees)
				}
				if impl.IsTree(s.N, edges) != (form <= 1) {
					t.Errorf("%s(%v) has %d: IsTree %t", name, s, edges, impl.IsTree(s.N, edges))
				}
			}
		}
		for number, edges := range wantAllForms()[s.N][0] {
			if s.N == 6 && (number+at)%8 != 0 {
				continue
			}
			if slices.Contains(got[0], edges) != impl.IsPlane(s, edges) {
				t.Errorf("PlaneTrees(%v) = %v, IsPlane of %d %t", s, got[0], edges, impl.IsPlane(s, edges))
			}
		}
	}
}

// TestPolygonsLoseAnEdge holds because what is left of a polygon is a path.
func TestPolygonsLoseAnEdge(t *testing.T) {
	for _, s := range fewOrderSigns() {
		trees, paths, polygons := impl.PlaneTrees(s), impl.PlanePaths(s), impl.PolygonsOf(s)
		if len(polygons) == 0 {
			t.Errorf("PolygonsOf(%v) = %v", s, polygons)
		}
		for _, polygon := range polygons {
			for _, k := range elementsOf(edgeCounts[s.N], polygon) {
				if path := polygon - 1<<k; !slices.Contains(paths, path) || !impl.IsTree(s.N, path) {
					t.Errorf("%v: the polygon %d leaves %d, PlanePaths %v", s, polygon, path, paths)
				}
			}
		}
		for _, path := range paths {
			if !slices.Contains(trees, path) {
				t.Errorf("%v: PlanePaths %v, PlaneTrees %v", s, paths, trees)
			}
		}
	}
}

// TestPlaneSetsOfARoundOrder counts those of polygons, in whatever order their elements have names.
func TestPlaneSetsOfARoundOrder(t *testing.T) {
	counts := [][]int{3: {3, 3, 1, 0}, 4: {12, 8, 1, 2}, 5: {55, 20, 1, 0}, 6: {273, 48, 1, 5}}
	for n := 3; n <= 6; n++ {
		eachOrder(n, func(names []int) {
			if n == 6 && names[0] != 2 {
				return
			}
			s, ok := impl.RenameSigns(allPlus(n), names)
			got := formsOf(s)
			for at, name := range formNames {
				if !ok || len(got[at]) != counts[n][at] {
					t.Errorf("%s(%v) = %v", name, s, got[at])
				}
			}
			if hull := impl.HullEdges(s); !slices.Equal(got[2], []int{hull}) {
				t.Errorf("PolygonsOf(%v) = %v, HullEdges %d", s, got[2], hull)
			}
		})
	}
}

// TestPlaneSetsOfTooManyElements takes order signs of 7 elements, although trees and polygons of them can be plane, too.
func TestPlaneSetsOfTooManyElements(t *testing.T) {
	for _, s := range orderSigns() {
		if s.N == 7 {
			checkNoForms(t, s)
		}
	}
	for _, s := range []impl.Signs{allPlus(7), allMinus(7), seven(), shells()} {
		checkNoForms(t, s)
	}
	if hull := impl.HullEdges(allPlus(7)); !impl.IsPlane(allPlus(7), hull) || !impl.IsTree(7, hull-1) {
		t.Errorf("HullEdges %d, IsTree without its first edge %t", hull, impl.IsTree(7, hull-1))
	}
	checkNoForms(t, sgn(8, strings.Repeat("+", 56)))
}

func TestPlaneSetsOfNoOrderSigns(t *testing.T) {
	for _, s := range moreDisorderSigns() {
		checkNoForms(t, s)
	}
}

// TestPlaneSetsOfAlikeSigns holds because opposite signs leave all crossings, and renamed elements take their edges along.
func TestPlaneSetsOfAlikeSigns(t *testing.T) {
	for _, s := range fewOrderSigns() {
		opposite, renamed, names := alikeSigns(t, s)
		before := formsOf(s)
		var moved forms
		for _, sets := range before {
			var list []int
			for _, edges := range sets {
				list = append(list, renamedEdges(names, edges))
			}
			slices.Sort(list)
			moved = append(moved, list)
		}
		checkForms(t, opposite, formsOf(opposite), before)
		checkForms(t, renamed, formsOf(renamed), moved)
	}
}

func TestIsTreeAndDegreesOf(t *testing.T) {
	cases := []struct {
		n, edges int
		tree     bool
		degrees  []int
	}{
		{3, 0, false, []int{0, 0, 0}}, {3, 1, false, []int{1, 1, 0}}, {3, 2, false, []int{1, 0, 1}}, {3, 4, false, []int{0, 1, 1}},
		{3, 3, true, []int{2, 1, 1}}, {3, 5, true, []int{1, 2, 1}}, {3, 6, true, []int{1, 1, 2}},
		{3, 7, false, []int{2, 2, 2}}, {3, 8, false, nil}, {3, 9, false, nil}, {3, 11, false, nil}, {3, -1, false, nil}, {3, -2, false, nil},
		{4, 0, false, []int{0, 0, 0, 0}}, {4, 7, true, []int{3, 1, 1, 1}}, {4, 25, true, []int{1, 3, 1, 1}}, {4, 42, true, []int{1, 1, 3, 1}}, {4, 52, true, []int{1, 1, 1, 3}}, {4, 41, true, []int{1, 2, 2, 1}}, {4, 50, true, []int{1, 1, 2, 2}},
		// A triangle has as many edges as a tree, but leaves an element out.
		{4, 11, false, []int{2, 2, 2, 0}}, {4, 21, false, []int{2, 2, 0, 2}}, {4, 38, false, []int{2, 0, 2, 2}}, {4, 56, false, []int{0, 2, 2, 2}},
		{4, 3, false, []int{2, 1, 1, 0}}, {4, 33, false, []int{1, 1, 1, 1}}, {4, 15, false, []int{3, 2, 2, 1}}, {4, 45, false, []int{2, 2, 2, 2}}, {4, 63, false, []int{3, 3, 3, 3}}, {4, 64, false, nil}, {4, 64 + 7, false, nil}, {4, 64 + 3, false, nil}, {4, -1, false, nil},
		// It does not matter that the edges 02 and 13, and then 14 and 25, cross in some signs.
		{4, 19, true, []int{2, 2, 1, 1}}, {6, 1 + 4 + 128 + 1024 + 2048, true, []int{2, 2, 2, 1, 2, 1}},
		{5, 15, true, []int{4, 1, 1, 1, 1}}, {5, 657, true, []int{1, 2, 2, 2, 1}}, {5, 1 + 2 + 16 + 512, false, []int{2, 2, 2, 1, 1}}, {5, 665, false, []int{2, 2, 2, 2, 2}}, {5, 1023, false, []int{4, 4, 4, 4, 4}}, {5, 1024, false, nil}, {5, 1024 + 15, false, nil}, {5, 1024 + 7, false, nil},
		{6, 31, true, []int{5, 1, 1, 1, 1, 1}}, {6, 16897, false, []int{1, 1, 1, 1, 1, 1}}, {6, 1 + 2 + 32 + 4096 + 8192, false, []int{2, 2, 2, 2, 1, 1}}, {6, 32767, false, []int{5, 5, 5, 5, 5, 5}}, {6, 32768, false, nil},
		// The path 0165432 comes back through the greatest elements.
		{7, 1 + 1024 + 1048576 + 262144 + 32768 + 2048, true, []int{1, 2, 1, 2, 2, 2, 2}}, {7, 63, true, []int{6, 1, 1, 1, 1, 1, 1}}, {7, 1345633, false, []int{2, 2, 2, 2, 2, 2, 2}}, {7, 0, false, []int{0, 0, 0, 0, 0, 0, 0}}, {7, 2097151, false, []int{6, 6, 6, 6, 6, 6, 6}}, {7, 2097152, false, nil}, {7, 2097152 + 63, false, nil}, {7, 2097152 + 31, false, nil}, {7, -1, false, nil},
		{2, 0, false, nil}, {2, 1, false, nil}, {1, 0, false, nil}, {0, 0, false, nil}, {0, -1, false, nil}, {-1, 0, false, nil}, {8, 0, false, nil}, {8, 127, false, nil},
	}
	for _, c := range cases {
		if tree, degrees := impl.IsTree(c.n, c.edges), impl.DegreesOf(c.n, c.edges); tree != c.tree || !slices.Equal(degrees, c.degrees) {
			t.Errorf("%d, %d: IsTree %t, DegreesOf %v, want %t, %v", c.n, c.edges, tree, degrees, c.tree, c.degrees)
		}
	}
}

// TestIsTreeOfEachSet takes all sets of edges; there are n to the power of n - 2 trees.
func TestIsTreeOfEachSet(t *testing.T) {
	counts := []int{3: 3, 4: 16, 5: 125, 6: 1296, 7: 16807}
	for n := 3; n <= 7; n++ {
		var trees []int
		for edges := range 1 << edgeCounts[n] {
			if impl.IsTree(n, edges) {
				trees = append(trees, edges)
			}
		}
		if want := wantTrees(n); len(want) != counts[n] || !slices.Equal(trees, want) {
			t.Errorf("%d elements have %d trees, want %d", n, len(trees), len(want))
		}
	}
}

func TestDegreesOfEachSet(t *testing.T) {
	for n := 3; n <= 7; n++ {
		sets := edgeSets(n)
		if n == 5 || n == 6 {
			for edges := range 1 << edgeCounts[n] {
				sets = append(sets, edges)
			}
		}
		pairs := pairsOf(n)
		for _, edges := range sets {
			want := make([]int, n)
			for _, k := range elementsOf(edgeCounts[n], edges) {
				want[pairs[k][0]]++
				want[pairs[k][1]]++
			}
			if got := impl.DegreesOf(n, edges); !slices.Equal(got, want) {
				t.Errorf("DegreesOf(%d, %d) = %v, want %v", n, edges, got, want)
			}
		}
	}
}

// checkNoTree expects the results of numbers that are no sets of edges.
func checkNoTree(t *testing.T, n int, edges int) {
	t.Helper()
	if tree, degrees := impl.IsTree(n, edges), impl.DegreesOf(n, edges); tree || len(degrees) != 0 {
		t.Errorf("%d, %d: IsTree %t, DegreesOf %v", n, edges, tree, degrees)
	}
}

// TestTreesOfFarNumbers takes, among others, a tree together with an edge that does not exist, and as many edges as a tree has, one of which does not exist.
func TestTreesOfFarNumbers(t *testing.T) {
	for n := 3; n <= 7; n++ {
		star := 1<<(n-1) - 1
		for _, far := range farEdgeSets(n) {
			checkNoTree(t, n, far)
		}
		for _, k := range []int{edgeCounts[n], edgeCounts[n] + 1, 31, 32, 40, 62} {
			checkNoTree(t, n, star+1<<k)
			checkNoTree(t, n, star/2+1<<k)
		}
		checkNoTree(t, n, star+math.MinInt)
		checkNoTree(t, n, star/2+math.MinInt)
		checkNoTree(t, n, -star)
	}
}

func TestTreesOfTooFewOrTooManyElements(t *testing.T) {
	for _, n := range []int{0, 1, 2, 8, 9, 10, 16, 63, 64, 65, -1, -2, -3, -7, 1 << 31, 1 << 32, 1<<32 + 3, 1<<32 + 7, 1 << 62, 1<<62 + 3, math.MaxInt, math.MinInt, math.MinInt + 3} {
		for _, edges := range []int{-2, -1, 0, 1, 2, 3, 5, 7, 63, 127, 1<<21 - 1, 1 << 28, math.MaxInt, math.MinInt, n} {
			checkNoTree(t, n, edges)
		}
	}
}

func TestPlaneSetsAreNewEachTime(t *testing.T) {
	inside := sgn(4, "++-+")
	want := [][]int{{3, 5, 6}, {3, 5, 6}, {7}, {30, 45, 51}, {12, 18, 33}, {12, 33}, {3, 1, 1, 1}, {2, 1, 1}}
	for range 2 {
		three := sgn(3, "+")
		got := [][]int{impl.PlaneTrees(three), impl.PlanePaths(three), impl.PolygonsOf(three), impl.PolygonsOf(inside), impl.PlaneMatchings(inside), impl.PlaneMatchings(sgn(4, "++++")), impl.DegreesOf(4, 7), impl.DegreesOf(3, 3)}
		if !slices.EqualFunc(got, want, slices.Equal) {
			t.Errorf("%v, want %v", got, want)
		}
		checkApart(t, got, want)
	}
}
