package tests

import (
	"math"
	"slices"
	"strings"
	"testing"

	"loop.example/g03104/impl"
)

// wantInTriangles tells whether p is alone against some three of the elements; s are order signs.
func wantInTriangles(s impl.Signs, elements []int, p int) bool {
	for _, three := range ascendingThrees(s.N) {
		a, b, c := three[0], three[1], three[2]
		if slices.Contains(elements, a) && slices.Contains(elements, b) && slices.Contains(elements, c) && !slices.Contains(three, p) && wantInner(s, p, a, b, c) == p {
			return true
		}
	}
	return false
}

// wantLayers takes the extreme elements away until none are left; s are order signs.
func wantLayers(s impl.Signs) [][]int {
	var layers [][]int
	left := elementsOf(s.N, 1<<s.N-1)
	for range s.N {
		var layer, rest []int
		for _, e := range left {
			if wantInTriangles(s, left, e) {
				rest = append(rest, e)
			} else {
				layer = append(layer, e)
			}
		}
		if len(layer) > 0 {
			layers = append(layers, layer)
		}
		left = rest
	}
	return layers
}

// wantHull goes from each element to the one that leaves all others to the left.
func wantHull(s impl.Signs) []int {
	hull := wantLayers(s)[0][:1]
	for range s.N {
		at := hull[len(hull)-1]
		for next := range s.N {
			if next == hull[0] || !allLeft(s, at, next) {
				continue
			}
			hull = append(hull, next)
			break
		}
	}
	return hull
}

func allLeft(s impl.Signs, a int, b int) bool {
	for k := range s.N {
		if a == b || k != a && k != b && wantSignAt(s, a, b, k) != 1 {
			return false
		}
	}
	return true
}

// nested are signs of six points, the last three inside the triangle of the others.
func nested() impl.Signs { return signsOfPoints(pts(0, 0, 10, 0, 5, 9, 4, 3, 6, 3, 5, 5)) }

// shells are signs of points with three layers: 0, 3, 5; then 1, 2, 6; then 4.
func shells() impl.Signs {
	return signsOfPoints(pts(-40, -40, -10, -9, 11, -10, 40, -41, 1, -2, 0, 40, 0, 9))
}

func allPlus(n int) impl.Signs { return sgn(n, strings.Repeat("+", threeCounts[n])) }

func allMinus(n int) impl.Signs { return sgn(n, strings.Repeat("-", threeCounts[n])) }

func TestHullOfAndLayersOf(t *testing.T) {
	cases := []struct {
		s      impl.Signs
		hull   []int
		layers [][]int
	}{
		{sgn(3, "+"), []int{0, 1, 2}, [][]int{{0, 1, 2}}},
		{sgn(3, "-"), []int{0, 2, 1}, [][]int{{0, 1, 2}}},
		{sgn(4, "++-+"), []int{0, 1, 2}, [][]int{{0, 1, 2}, {3}}},
		{sgn(4, "--+-"), []int{0, 2, 1}, [][]int{{0, 1, 2}, {3}}},
		{sgn(4, "+---"), []int{0, 3, 2}, [][]int{{0, 2, 3}, {1}}},
		{sgn(4, "-+++"), []int{0, 2, 3}, [][]int{{0, 2, 3}, {1}}},
		{sgn(4, "+-++"), []int{1, 2, 3}, [][]int{{1, 2, 3}, {0}}},
		{sgn(4, "-+--"), []int{1, 3, 2}, [][]int{{1, 2, 3}, {0}}},
		{sgn(4, "+++-"), []int{0, 1, 3}, [][]int{{0, 1, 3}, {2}}},
		{sgn(4, "++++"), []int{0, 1, 2, 3}, [][]int{{0, 1, 2, 3}}},
		{sgn(4, "----"), []int{0, 3, 2, 1}, [][]int{{0, 1, 2, 3}}},
		{sgn(4, "+--+"), []int{0, 3, 1, 2}, [][]int{{0, 1, 2, 3}}},
		{sgn(4, "++--"), []int{0, 1, 3, 2}, [][]int{{0, 1, 2, 3}}},
		{allPlus(5), []int{0, 1, 2, 3, 4}, [][]int{{0, 1, 2, 3, 4}}},
		{sgn(5, "------++++"), []int{0, 4, 1}, [][]int{{0, 1, 4}, {2, 3}}},
		{signsOfPoints(pts(0, 0, 10, 0, 10, 9, 0, 8, 4, 3)), []int{0, 1, 2, 3}, [][]int{{0, 1, 2, 3}, {4}}},
		{signsOfPoints(pts(10, 9, 4, 3, 10, 0, 0, 0, 0, 8)), []int{0, 4, 3, 2}, [][]int{{0, 2, 3, 4}, {1}}},
		{signsOfPoints(pts(0, 0, 10, 0, 5, 9, 4, 3, 6, 4)), []int{0, 1, 2}, [][]int{{0, 1, 2}, {3, 4}}},
		{signsOfPoints(pts(6, 4, 5, 9, 4, 3, 10, 0, 0, 0)), []int{1, 4, 3}, [][]int{{1, 3, 4}, {0, 2}}},
		{nested(), []int{0, 1, 2}, [][]int{{0, 1, 2}, {3, 4, 5}}},
		{shells(), []int{0, 3, 5}, [][]int{{0, 3, 5}, {1, 2, 6}, {4}}},
		{allPlus(6), []int{0, 1, 2, 3, 4, 5}, [][]int{{0, 1, 2, 3, 4, 5}}},
		{allPlus(7), []int{0, 1, 2, 3, 4, 5, 6}, [][]int{{0, 1, 2, 3, 4, 5, 6}}},
		{allMinus(7), []int{0, 6, 5, 4, 3, 2, 1}, [][]int{{0, 1, 2, 3, 4, 5, 6}}},
		{sgn(4, "+-+-"), nil, nil}, {sgn(4, "-+-+"), nil, nil}, {sgn(5, "++++-+++++"), nil, nil}, {sgn(5, "+--++---+-"), nil, nil},
		{impl.Signs{}, nil, nil}, {sgn(2, ""), nil, nil}, {sgn(3, ""), nil, nil}, {sgn(3, "0"), nil, nil}, {sgn(4, "+++"), nil, nil}, {sgn(8, strings.Repeat("+", 56)), nil, nil},
	}
	for _, c := range cases {
		if got := impl.HullOf(c.s); !slices.Equal(got, c.hull) {
			t.Errorf("HullOf(%v) = %v, want %v", c.s, got, c.hull)
		}
		if got := impl.LayersOf(c.s); !slices.EqualFunc(got, c.layers, slices.Equal) {
			t.Errorf("LayersOf(%v) = %v, want %v", c.s, got, c.layers)
		}
		size := len(c.hull)
		if size == 0 {
			size = -1
		}
		if got := impl.HullSize(c.s); got != size {
			t.Errorf("HullSize(%v) = %d, want %d", c.s, got, size)
		}
		if got := impl.IsConvex(c.s); got != (len(c.layers) == 1) {
			t.Errorf("IsConvex(%v) = %t", c.s, got)
		}
		for i := -1; i <= 8; i++ {
			if got := impl.IsExtreme(c.s, i); got != slices.Contains(c.hull, i) {
				t.Errorf("IsExtreme(%v, %d) = %t", c.s, i, got)
			}
		}
	}
}

func TestHullsOfOrderSigns(t *testing.T) {
	for _, s := range orderSigns() {
		hull, layers := wantHull(s), wantLayers(s)
		if got := impl.HullOf(s); !slices.Equal(got, hull) {
			t.Errorf("HullOf(%v) = %v, want %v", s, got, hull)
		}
		if got := impl.LayersOf(s); !slices.EqualFunc(got, layers, slices.Equal) {
			t.Errorf("LayersOf(%v) = %v, want %v", s, got, layers)
		}
		if got := impl.HullSize(s); got != len(layers[0]) {
			t.Errorf("HullSize(%v) = %d, want %d", s, got, len(layers[0]))
		}
		if got := impl.IsConvex(s); got != (len(layers[0]) == s.N) {
			t.Errorf("IsConvex(%v) = %t", s, got)
		}
		for i := -1; i <= s.N; i++ {
			if got := impl.IsExtreme(s, i); got != slices.Contains(layers[0], i) {
				t.Errorf("IsExtreme(%v, %d) = %t", s, i, got)
			}
		}
	}
}

// TestExtremeElementsFollowEachOther asks the promise itself.
func TestExtremeElementsFollowEachOther(t *testing.T) {
	for _, s := range orderSigns() {
		hull := impl.HullOf(s)
		if len(hull) < 3 || hull[0] != slices.Min(hull) {
			t.Errorf("HullOf(%v) = %v", s, hull)
			continue
		}
		for at, e := range hull {
			next := hull[(at+1)%len(hull)]
			if !allLeft(s, e, next) {
				t.Errorf("HullOf(%v) = %v: an element lies to the right of %d, %d", s, hull, e, next)
			}
		}
		for e := range s.N {
			count := 0
			for _, h := range hull {
				if h == e {
					count++
				}
			}
			want := 1
			if wantInTriangles(s, elementsOf(s.N, 1<<s.N-1), e) {
				want = 0
			}
			if count != want {
				t.Errorf("HullOf(%v) = %v has element %d %d times", s, hull, e, count)
			}
		}
	}
}

// inPointTriangles tells by areas alone whether point p lies inside the triangle of some three of the points of the set.
func inPointTriangles(list []impl.Point, set []int, p int) bool {
	for _, a := range set {
		for _, b := range set {
			for _, c := range set {
				if wantInTriangle(list[p], list[a], list[b], list[c]) {
					return true
				}
			}
		}
	}
	return false
}

func TestHullsOfPoints(t *testing.T) {
	for _, list := range orderPoints() {
		s := signsOfPoints(list)
		least := 0
		for i, p := range list {
			if p.Y < list[least].Y || p.Y == list[least].Y && p.X < list[least].X {
				least = i
			}
		}
		// A thread is laid around the points, from the lowest one.
		around := []int{least}
		for len(around) <= len(list) {
			last, next := around[len(around)-1], -1
			for k := range list {
				if k != last && (next == -1 || bigArea(list[last], list[next], list[k]).Sign() < 0) {
					next = k
				}
			}
			if next == least {
				break
			}
			around = append(around, next)
		}
		first := slices.Index(around, slices.Min(around))
		want := append(slices.Clone(around[first:]), around[:first]...)
		if got := impl.HullOf(s); !slices.Equal(got, want) {
			t.Errorf("HullOf of %v = %v, want %v", list, got, want)
		}
		for p := range list {
			others := slices.DeleteFunc(elementsOf(len(list), 1<<len(list)-1), func(e int) bool { return e == p })
			if got, inside := impl.IsExtreme(s, p), inPointTriangles(list, others, p); got == inside {
				t.Errorf("IsExtreme of %v, %d = %t", list, p, got)
			}
		}
	}
}

func TestInHull(t *testing.T) {
	inside := sgn(4, "++-+")
	tent := signsOfPoints(pts(0, 0, 10, 0, 10, 9, 0, 8, 6, 3))
	cases := []struct {
		s    impl.Signs
		set  int
		p    int
		want bool
	}{
		{inside, 7, 3, true}, {inside, 7, 0, false}, {inside, 7, 1, false}, {inside, 7, 2, false},
		{inside, 11, 2, false}, {inside, 13, 1, false}, {inside, 14, 0, false}, {inside, 3, 3, false}, {inside, 4, 3, false}, {inside, 0, 3, false},
		// The element is in the set itself.
		{inside, 15, 3, false}, {inside, 15, 0, false}, {inside, 8, 3, false},
		{inside, 7, 4, false}, {inside, 7, -1, false}, {inside, 15, 4, false}, {inside, 7, 7, false},
		{inside, 16, 3, false}, {inside, 16 + 7, 3, false}, {inside, 32 + 7, 3, false}, {inside, 1<<32 + 7, 3, false}, {inside, 1<<62 + 7, 3, false},
		{inside, -1, 3, false}, {inside, -9, 3, false}, {inside, -16 + 7, 3, false}, {inside, math.MinInt, 3, false}, {inside, math.MinInt + 7, 3, false}, {inside, math.MaxInt, 3, false}, {inside, math.MaxInt - 8, 3, false},
		{sgn(4, "+---"), 13, 1, true}, {sgn(4, "+-++"), 14, 0, true}, {sgn(4, "+++-"), 11, 2, true}, {sgn(4, "++++"), 7, 3, false}, {sgn(4, "++++"), 14, 0, false},
		{sgn(3, "+"), 3, 2, false}, {sgn(3, "+"), 6, 0, false}, {sgn(3, "-"), 7, 2, false}, {sgn(3, "+"), 7, 3, false}, {sgn(3, "+"), 8, 0, false},
		// Element 4 lies inside the triangles of 0, 1, 2 and of 0, 1, 3.
		{tent, 15, 4, true}, {tent, 7, 4, true}, {tent, 11, 4, true}, {tent, 13, 4, false}, {tent, 14, 4, false}, {tent, 5, 4, false}, {tent, 16 + 7, 4, false}, {tent, 16 + 7, 3, false},
		{nested(), 7, 3, true}, {nested(), 7, 5, true}, {nested(), 63 - 8, 3, true}, {nested(), 32 + 16 + 2, 3, false}, {nested(), 32 + 3, 3, true}, {nested(), 63, 3, false}, {nested(), 64 + 7, 3, false}, {nested(), 56, 0, false},
		{shells(), 1 + 8 + 32, 4, true}, {shells(), 2 + 4 + 64, 4, true}, {shells(), 127 - 16, 4, true}, {shells(), 127 - 2, 1, true}, {shells(), 2 + 4 + 64 + 16, 0, false}, {shells(), 127, 4, false}, {shells(), 128 + 1 + 8 + 32, 4, false},
		{allPlus(7), 126, 0, false}, {allPlus(7), 63, 6, false}, {allPlus(7), 127, 6, false}, {allPlus(7), 127, 7, false},
		{sgn(4, "+-+-"), 7, 3, false}, {sgn(5, "++++-+++++"), 7, 3, false}, {sgn(5, "++++-+++++"), 25, 2, false}, {sgn(5, "++++-+++++"), 15, 4, false},
		{impl.Signs{}, 0, 0, false}, {impl.Signs{}, 7, 3, false}, {sgn(4, "++-"), 7, 3, false}, {sgn(4, "++-0"), 7, 3, false}, {sgn(-1, ""), 0, -1, false}, {sgn(8, strings.Repeat("+", 56)), 7, 3, false},
	}
	for _, c := range cases {
		if got := impl.InHull(c.s, c.set, c.p); got != c.want {
			t.Errorf("InHull(%v, %d, %d) = %t", c.s, c.set, c.p, got)
		}
	}
}

// checkInHull takes every step-th set, with some numbers that are no sets, and each element and both numbers beside them.
func checkInHull(t *testing.T, s impl.Signs, first int, step int) {
	t.Helper()
	for set := first - 16; set < 1<<s.N+16; set += step {
		for p := -1; p <= s.N; p++ {
			want := false
			if set >= 0 && set < 1<<s.N && p >= 0 && p < s.N {
				elements := elementsOf(s.N, set)
				want = !slices.Contains(elements, p) && wantInTriangles(s, elements, p)
			}
			if got := impl.InHull(s, set, p); got != want {
				t.Errorf("InHull(%v, %d, %d) = %t", s, set, p, got)
			}
		}
	}
}

func TestInHullOfEachSet(t *testing.T) {
	for at, s := range orderSigns() {
		step := 1
		if s.N > 4 {
			step = 5 + s.N
		}
		checkInHull(t, s, at%step, step)
	}
	for _, s := range []impl.Signs{sgn(5, "------++++"), nested(), shells(), allPlus(6)} {
		checkInHull(t, s, 0, 1)
	}
}

func TestInHullOfPoints(t *testing.T) {
	for _, list := range orderPoints() {
		s := signsOfPoints(list)
		for set := 1; set < 1<<len(list); set += 3 {
			elements := elementsOf(len(list), set)
			for p := range list {
				want := !slices.Contains(elements, p) && inPointTriangles(list, elements, p)
				if got := impl.InHull(s, set, p); got != want {
					t.Errorf("InHull of %v, %d, %d = %t", list, set, p, got)
				}
			}
		}
	}
}

func TestHullsOfNoElements(t *testing.T) {
	for _, s := range []impl.Signs{allPlus(7), shells()} {
		for _, far := range farNumbers() {
			if impl.IsExtreme(s, far) {
				t.Errorf("IsExtreme(%v, %d) = true", s, far)
			}
			for _, set := range []int{0, 7, 41, 127} {
				if impl.InHull(s, set, far) {
					t.Errorf("InHull(%v, %d, %d) = true", s, set, far)
				}
			}
			// The lowest bits alone are a set with 4 in its hull.
			for _, set := range []int{far, far &^ 16, far&^127 | 41} {
				if p := 4; (set < 0 || set > 127) && impl.InHull(s, set, p) {
					t.Errorf("InHull(%v, %d, %d) = true", s, set, p)
				}
			}
		}
	}
}

func TestHullsOfNoOrderSigns(t *testing.T) {
	// N of some of these is the result of HullSize or the length of an empty list.
	for _, s := range append(disorderSigns(), sgn(-1, ""), sgn(-1, "+"), sgn(0, ""), sgn(0, "+"), sgn(-64, ""), sgn(64, "")) {
		if got := impl.HullOf(s); len(got) != 0 {
			t.Errorf("HullOf(%v) = %v", clip(s), got)
		}
		if got := impl.LayersOf(s); len(got) != 0 {
			t.Errorf("LayersOf(%v) = %v", clip(s), got)
		}
		if got := impl.HullSize(s); got != -1 {
			t.Errorf("HullSize(%v) = %d", clip(s), got)
		}
		if impl.IsConvex(s) {
			t.Errorf("IsConvex(%v) = true", clip(s))
		}
		for i := -1; i <= 3; i++ {
			if impl.IsExtreme(s, i) {
				t.Errorf("IsExtreme(%v, %d) = true", clip(s), i)
			}
			for _, set := range []int{0, 7, 13, 15 &^ (1 << max(i, 0)), -1} {
				if impl.InHull(s, set, i) {
					t.Errorf("InHull(%v, %d, %d) = true", clip(s), set, i)
				}
			}
		}
	}
}

func TestHullsAreNewEachTime(t *testing.T) {
	s := shells()
	hull, layers := []int{0, 3, 5}, [][]int{{0, 3, 5}, {1, 2, 6}, {4}}
	first, firstLayers := impl.HullOf(s), impl.LayersOf(s)
	for at, layer := range firstLayers {
		longer := append(layer, -8, -8, -8)
		if !slices.EqualFunc(firstLayers[at+1:], layers[at+1:], slices.Equal) {
			t.Fatalf("after %v: %v", longer, firstLayers)
		}
		for i := range layer {
			layer[i] = -9
		}
	}
	if !slices.Equal(first, hull) {
		t.Errorf("HullOf(%v) shares memory with LayersOf: %v", s, first)
	}
	for i := range first {
		first[i] = -9
	}
	if got := impl.HullOf(s); !slices.Equal(got, hull) {
		t.Errorf("HullOf(%v) = %v, want %v", s, got, hull)
	}
	if got := impl.LayersOf(s); !slices.EqualFunc(got, layers, slices.Equal) {
		t.Errorf("LayersOf(%v) = %v, want %v", s, got, layers)
	}
}

// TestLayersAreHullsOfWhatIsLeft takes the extreme elements away by WithoutElement, as long as it can.
func TestLayersAreHullsOfWhatIsLeft(t *testing.T) {
	for _, s := range orderSigns() {
		names := elementsOf(s.N, 1<<s.N-1)
		left := s
		for at, layer := range impl.LayersOf(s) {
			var named []int
			for i, name := range names {
				if len(names) < 3 || impl.IsExtreme(left, i) {
					named = append(named, name)
				}
			}
			if !slices.Equal(layer, named) {
				t.Errorf("LayersOf(%v): layer %d is %v, want %v", s, at, layer, named)
			}
			for i := len(names) - 1; i >= 0; i-- {
				if !slices.Contains(layer, names[i]) {
					continue
				}
				left = wantWithoutIfMore(left, i)
				names = slices.Delete(names, i, i+1)
			}
		}
		if len(names) != 0 {
			t.Errorf("LayersOf(%v) = %v", s, impl.LayersOf(s))
		}
	}
}

// wantWithoutIfMore leaves signs of three elements as they are: signs of two are none.
func wantWithoutIfMore(s impl.Signs, i int) impl.Signs {
	if s.N == 3 {
		return s
	}
	return wantWithout(s, i)
}

// TestHullsOfAlikeSigns holds because a mirrored hull goes the other way around, and renamed elements stay where they are.
func TestHullsOfAlikeSigns(t *testing.T) {
	for _, s := range orderSigns() {
		hull := impl.HullOf(s)
		opposite, okOpposite := impl.OppositeSigns(s)
		slices.Reverse(hull[1:])
		if got := impl.HullOf(opposite); !okOpposite || !slices.Equal(got, hull) {
			t.Errorf("HullOf(%v) = %v, want %v", opposite, got, hull)
		}
		if !slices.EqualFunc(impl.LayersOf(opposite), impl.LayersOf(s), slices.Equal) {
			t.Errorf("LayersOf(%v) = %v, of the opposite %v", s, impl.LayersOf(s), impl.LayersOf(opposite))
		}
		var names []int
		for i := range s.N {
			names = append(names, (i+2)%s.N)
		}
		renamed, okRenamed := impl.RenameSigns(s, names)
		for i, name := range names {
			if !okRenamed || impl.IsExtreme(renamed, name) != impl.IsExtreme(s, i) {
				t.Errorf("IsExtreme(%v, %d) = %t, renamed %v", s, i, impl.IsExtreme(s, i), renamed)
			}
		}
	}
}
