package tests

import (
	"math"
	"slices"
	"strings"
	"testing"

	"loop.example/g03104/impl"
)

// wantIsConvexSet asks for each element of the set whether it lies inside a triangle of the others; s are order signs.
func wantIsConvexSet(s impl.Signs, set int) bool {
	if set < 0 || set >= 1<<s.N {
		return false
	}
	elements := elementsOf(s.N, set)
	return len(elements) >= 3 && !slices.ContainsFunc(elements, func(e int) bool { return wantInTriangles(s, elements, e) })
}

// wantIsEmptySet asks for each other element whether it lies inside a triangle of the convex set.
func wantIsEmptySet(s impl.Signs, set int) bool {
	inner, outer := elementsOf(s.N, set), elementsOf(s.N, 1<<s.N-1-set)
	return !slices.ContainsFunc(outer, func(e int) bool { return wantInTriangles(s, inner, e) })
}

// wantConvexSets returns the convex sets and the empty ones of these, by their numbers of elements.
func wantConvexSets(s impl.Signs) (convex [][]int, empty [][]int) {
	convex, empty = make([][]int, s.N+1), make([][]int, s.N+1)
	for set := range 1 << s.N {
		if !wantIsConvexSet(s, set) {
			continue
		}
		k := len(elementsOf(s.N, set))
		convex[k] = append(convex[k], set)
		if wantIsEmptySet(s, set) {
			empty[k] = append(empty[k], set)
		}
	}
	return convex, empty
}

// wantLongest lengthens the list by each greater element that has the sign with any two of it, the lesser ones first, and keeps the first longest list.
func wantLongest(s impl.Signs, sign int, list []int, longest []int) []int {
	if len(list) > len(longest) {
		longest = slices.Clone(list)
	}
	for e := range s.N {
		if len(list) > 0 && e <= list[len(list)-1] || !hasSignWithAll(s, sign, list, e) {
			continue
		}
		longest = wantLongest(s, sign, append(slices.Clone(list), e), longest)
	}
	return longest
}

func hasSignWithAll(s impl.Signs, sign int, list []int, e int) bool {
	for at, b := range list {
		for _, a := range list[:at] {
			if wantSignAt(s, a, b, e) != sign {
				return false
			}
		}
	}
	return true
}

func checkConvexSets(t *testing.T, s impl.Signs, convex [][]int, empty [][]int) {
	t.Helper()
	largest, sum := -1, 0
	for k := -2; k <= s.N+3; k++ {
		var wantConvex, wantEmpty []int
		if k >= 0 && k < len(convex) {
			wantConvex, wantEmpty = convex[k], empty[k]
		}
		if got := impl.ConvexSets(s, k); !slices.Equal(got, wantConvex) {
			t.Errorf("ConvexSets(%v, %d) = %v, want %v", s, k, got, wantConvex)
		}
		if got := impl.EmptySets(s, k); !slices.Equal(got, wantEmpty) {
			t.Errorf("EmptySets(%v, %d) = %v, want %v", s, k, got, wantEmpty)
		}
		if len(wantConvex) > 0 {
			largest = k
		}
		if k%2 == 0 {
			sum -= len(wantEmpty)
		} else {
			sum += len(wantEmpty)
		}
	}
	if got := impl.LargestConvex(s); got != largest {
		t.Errorf("LargestConvex(%v) = %d, want %d", s, got, largest)
	}
	if got := impl.EvenSum(s); got != sum {
		t.Errorf("EvenSum(%v) = %d, want %d", s, got, sum)
	}
}

func TestConvexSets(t *testing.T) {
	threes, fours, fives := []int{7, 11, 13, 14}, []int{15, 23, 27, 29, 30}, []int{31, 47, 55, 59, 61, 62}
	threesOfFive := []int{7, 11, 13, 14, 19, 21, 22, 25, 26, 28}
	threesOfSix := slices.Concat(threesOfFive, []int{35, 37, 38, 41, 42, 44, 49, 50, 52, 56})
	threesOfSeven := slices.Concat(threesOfSix, []int{67, 69, 70, 73, 74, 76, 81, 82, 84, 88, 97, 98, 100, 104, 112})
	foursOfSix := slices.Concat(fours, []int{39, 43, 45, 46, 51, 53, 54, 57, 58, 60})
	round := [][]int{nil, nil, nil, threesOfSix, foursOfSix, fives, {63}}
	cases := []struct {
		s             impl.Signs
		convex, empty [][]int
		largest, sum  int
	}{
		{sgn(3, "+"), [][]int{3: {7}}, [][]int{3: {7}}, 3, 1},
		{sgn(3, "-"), [][]int{3: {7}}, [][]int{3: {7}}, 3, 1},
		// An element inside the triangle of the others: the four are not convex, and these three not empty.
		{sgn(4, "++-+"), [][]int{3: threes, 4: nil}, [][]int{3: {11, 13, 14}, 4: nil}, 3, 3},
		{sgn(4, "+---"), [][]int{3: threes, 4: nil}, [][]int{3: {7, 11, 14}, 4: nil}, 3, 3},
		{sgn(4, "+-++"), [][]int{3: threes, 4: nil}, [][]int{3: {7, 11, 13}, 4: nil}, 3, 3},
		{sgn(4, "+++-"), [][]int{3: threes, 4: nil}, [][]int{3: {7, 13, 14}, 4: nil}, 3, 3},
		{sgn(4, "++++"), [][]int{3: threes, 4: {15}}, [][]int{3: threes, 4: {15}}, 4, 3},
		{sgn(4, "+--+"), [][]int{3: threes, 4: {15}}, [][]int{3: threes, 4: {15}}, 4, 3},
		{allPlus(5), [][]int{3: threesOfFive, 4: fours, 5: {31}}, [][]int{3: threesOfFive, 4: fours, 5: {31}}, 5, 6},
		{allMinus(5), [][]int{3: threesOfFive, 4: fours, 5: {31}}, [][]int{3: threesOfFive, 4: fours, 5: {31}}, 5, 6},
		{sgn(5, "------++++"), [][]int{3: threesOfFive, 4: {30}, 5: nil}, [][]int{3: {7, 13, 14, 22, 25, 26, 28}, 4: {30}, 5: nil}, 4, 6},
		// 4 lies inside the convex set of the others, which is not empty.
		{signsOfPoints(pts(0, 0, 10, 0, 10, 9, 0, 8, 4, 3)), [][]int{3: threesOfFive, 4: {15, 29, 30}, 5: nil}, [][]int{3: {13, 14, 19, 21, 22, 25, 26, 28}, 4: {29, 30}, 5: nil}, 4, 6},
		{nested(), [][]int{3: threesOfSix, 4: {27, 45, 54}, 6: nil}, [][]int{3: {11, 13, 19, 22, 25, 26, 37, 38, 41, 44, 50, 52, 56}, 4: {27, 45, 54}, 6: nil}, 4, 10},
		{allPlus(6), round, round, 6, 10},
		{seven(), [][]int{3: threesOfSeven, 4: {15, 23, 30, 45, 46, 51, 53, 60, 71, 75, 86, 89, 90, 101, 102, 105, 106, 116, 120}, 7: nil},
			[][]int{3: {19, 21, 25, 35, 37, 38, 42, 49, 50, 52, 56, 70, 73, 74, 76, 81, 84, 88, 98, 100, 104, 112}, 4: {51, 53, 89, 102, 106, 116, 120}, 7: nil}, 4, 15},
		{shells(), [][]int{3: threesOfSeven, 4: {15, 23, 27, 29, 30, 99, 108, 116, 120}, 5: {31}, 7: nil},
			[][]int{3: {7, 11, 13, 14, 19, 21, 22, 25, 26, 28, 35, 44, 52, 67, 76, 82, 84, 97, 98, 100, 104, 112}, 4: {15, 23, 27, 29, 30, 99, 108, 116}, 5: {31}, 7: nil}, 5, 15},
	}
	for _, c := range cases {
		convex, empty := make([][]int, c.s.N+1), make([][]int, c.s.N+1)
		copy(convex, c.convex)
		copy(empty, c.empty)
		checkConvexSets(t, c.s, convex, empty)
		if got := impl.LargestConvex(c.s); got != c.largest {
			t.Errorf("LargestConvex(%v) = %d, want %d", c.s, got, c.largest)
		}
		if got := impl.EvenSum(c.s); got != c.sum {
			t.Errorf("EvenSum(%v) = %d, want %d", c.s, got, c.sum)
		}
	}
}

// TestConvexSetsOfARoundOrder holds because all sets of at least three elements on a circle are convex and empty.
func TestConvexSetsOfARoundOrder(t *testing.T) {
	for n := 3; n <= impl.MaxPoints; n++ {
		sets := make([][]int, n+1)
		for set := range 1 << n {
			if k := len(elementsOf(n, set)); k >= 3 {
				sets[k] = append(sets[k], set)
			}
		}
		for _, s := range []impl.Signs{allPlus(n), allMinus(n), signsOfPoints(parabola(n))} {
			checkConvexSets(t, s, sets, sets)
			if got := impl.LargestConvex(s); got != n {
				t.Errorf("LargestConvex(%v) = %d, want %d", s, got, n)
			}
		}
	}
}

func TestIsConvexSet(t *testing.T) {
	inside := sgn(4, "++-+")
	cases := []struct {
		s    impl.Signs
		set  int
		want bool
	}{
		{inside, 7, true}, {inside, 11, true}, {inside, 13, true}, {inside, 14, true}, {inside, 15, false},
		// Fewer than three elements are never convex.
		{inside, 0, false}, {inside, 1, false}, {inside, 8, false}, {inside, 3, false}, {inside, 5, false}, {inside, 12, false},
		{inside, 16, false}, {inside, 16 + 7, false}, {inside, 32 + 7, false}, {inside, 1<<32 + 7, false}, {inside, 1<<62 + 7, false},
		{inside, -1, false}, {inside, -9, false}, {inside, -16 + 7, false}, {inside, -7, false}, {inside, math.MinInt, false}, {inside, math.MinInt + 7, false}, {inside, math.MaxInt, false}, {inside, math.MaxInt - 8, false},
		{sgn(3, "+"), 7, true}, {sgn(3, "-"), 7, true}, {sgn(3, "+"), 3, false}, {sgn(3, "+"), 8, false}, {sgn(3, "+"), 15, false}, {sgn(3, "+"), 11, false},
		{sgn(4, "++++"), 15, true}, {sgn(4, "----"), 15, true}, {sgn(4, "+--+"), 15, true}, {sgn(4, "++++"), 31, false}, {sgn(4, "+---"), 15, false}, {sgn(4, "+-++"), 15, false}, {sgn(4, "+++-"), 15, false},
		{allPlus(5), 31, true}, {allPlus(5), 27, true}, {allPlus(5), 63, false}, {allPlus(5), 24, false},
		// Convex sets need not be empty.
		{nested(), 7, true}, {nested(), 27, true}, {nested(), 56, true}, {nested(), 63, false}, {nested(), 15, false}, {nested(), 59, false},
		{shells(), 1 + 8 + 32, true}, {shells(), 1 + 8 + 32 + 16, false}, {shells(), 99, true}, {shells(), 101, false}, {seven(), 101, true}, {seven(), 99, false}, {shells(), 127, false}, {shells(), 2 + 4 + 64, true}, {shells(), 2 + 4 + 64 + 16, false},
		{allPlus(7), 127, true}, {allPlus(7), 126, true}, {allPlus(7), 64 + 32 + 16, true}, {allPlus(7), 128 + 7, false}, {allPlus(7), 255, false}, {allPlus(7), 96, false},
		{sgn(4, "+-+-"), 7, false}, {sgn(4, "-+-+"), 15, false}, {sgn(5, "++++-+++++"), 7, false}, {sgn(5, "++++-+++++"), 31, false},
		{impl.Signs{}, 0, false}, {impl.Signs{}, 7, false}, {sgn(4, "++-"), 7, false}, {sgn(4, "++-0"), 7, false}, {sgn(-1, ""), 0, false}, {sgn(8, strings.Repeat("+", 56)), 7, false},
	}
	for _, c := range cases {
		if got := impl.IsConvexSet(c.s, c.set); got != c.want {
			t.Errorf("IsConvexSet(%v, %d) = %t", c.s, c.set, got)
		}
	}
}

func TestConvexSetsOfOrderSigns(t *testing.T) {
	for _, s := range orderSigns() {
		convex, empty := wantConvexSets(s)
		checkConvexSets(t, s, convex, empty)
	}
}

// checkIsConvexSet takes every step-th set, with some numbers that are no sets.
func checkIsConvexSet(t *testing.T, s impl.Signs, first int, step int) {
	t.Helper()
	for set := first - 16; set < 1<<s.N+16; set += step {
		if got, want := impl.IsConvexSet(s, set), wantIsConvexSet(s, set); got != want {
			t.Errorf("IsConvexSet(%v, %d) = %t", s, set, got)
		}
	}
}

func TestIsConvexSetOfEachSet(t *testing.T) {
	for at, s := range orderSigns() {
		step := 1
		if s.N > 4 {
			step = 5 + s.N
		}
		checkIsConvexSet(t, s, at%step, step)
	}
	for _, s := range []impl.Signs{sgn(5, "------++++"), nested(), shells(), seven(), allPlus(7)} {
		checkIsConvexSet(t, s, 0, 1)
	}
}

// TestFiveElementsHaveAConvexSetOfFour asks the promise itself, of each five of the elements.
func TestFiveElementsHaveAConvexSetOfFour(t *testing.T) {
	for _, s := range orderSigns() {
		fours := impl.ConvexSets(s, 4)
		for _, four := range fours {
			if e := elementsOf(s.N, four); len(e) != 4 || impl.InnerOf(s, e[0], e[1], e[2], e[3]) != -1 {
				t.Errorf("ConvexSets(%v, 4) = %v", s, fours)
			}
		}
		if got := impl.LargestConvex(s); s.N >= 5 && got < 4 {
			t.Errorf("LargestConvex(%v) = %d", s, got)
		}
		for set := range 1 << s.N {
			isWithinSet := func(four int) bool { return four&set == four && impl.IsConvexSet(s, four) }
			if len(elementsOf(s.N, set)) == 5 && !slices.ContainsFunc(fours, isWithinSet) {
				t.Errorf("ConvexSets(%v, 4) = %v, none of these in %d", s, fours, set)
			}
		}
	}
}

// TestEvenSumIsTheSameForAllOrders asks what the document says of the sum.
func TestEvenSumIsTheSameForAllOrders(t *testing.T) {
	for _, s := range orderSigns() {
		if got, want := impl.EvenSum(s), s.N*(s.N-1)/2-s.N+1; got != want {
			t.Errorf("EvenSum(%v) = %d, want %d", s, got, want)
		}
	}
}

// areRound tells by areas alone whether the points of the set are the corners of a polygon: each of them has another one next to which all others lie to the left.
func areRound(list []impl.Point, set []int) bool {
	for _, a := range set {
		hasNext := slices.ContainsFunc(set, func(b int) bool {
			return a != b && !slices.ContainsFunc(set, func(c int) bool { return bigArea(list[a], list[b], list[c]).Sign() < 0 })
		})
		if !hasNext {
			return false
		}
	}
	return true
}

func TestConvexSetsOfPoints(t *testing.T) {
	for _, list := range orderPoints() {
		n := len(list)
		convex, empty := make([][]int, n+1), make([][]int, n+1)
		for set := range 1 << n {
			inner := elementsOf(n, set)
			k := len(inner)
			if k < 3 || !areRound(list, inner) {
				continue
			}
			convex[k] = append(convex[k], set)
			isWithinSet := func(p int) bool { return inPointTriangles(list, inner, p) }
			if !slices.ContainsFunc(elementsOf(n, 1<<n-1-set), isWithinSet) {
				empty[k] = append(empty[k], set)
			}
		}
		checkConvexSets(t, signsOfPoints(list), convex, empty)
	}
}

// TestConvexSetsAndEarlierCounts compares the functions with those of earlier chapters.
func TestConvexSetsAndEarlierCounts(t *testing.T) {
	for _, s := range orderSigns() {
		all := 1<<s.N - 1
		if got, want := impl.IsConvexSet(s, all), impl.IsConvex(s); got != want || want != (impl.LargestConvex(s) == s.N) {
			t.Errorf("IsConvexSet(%v, %d) = %t, LargestConvex %d, IsConvex %t", s, all, got, impl.LargestConvex(s), want)
		}
		var quads []int
		for _, quad := range impl.QuadsOf(s) {
			quads = append(quads, setOf(quad...))
		}
		slices.Sort(quads)
		if got := impl.ConvexSets(s, 4); !slices.Equal(got, quads) {
			t.Errorf("ConvexSets(%v, 4) = %v, the fours %v", s, got, quads)
		}
		if got, want := len(impl.EmptySets(s, 3)), impl.EmptyTriangles(s); got != want {
			t.Errorf("EmptySets(%v, 3) has %d sets, EmptyTriangles %d", s, got, want)
		}
		for k := 3; k <= s.N; k++ {
			var empty []int
			for _, set := range impl.ConvexSets(s, k) {
				inHull := func(p int) bool { return impl.InHull(s, set, p) }
				if !slices.ContainsFunc(elementsOf(s.N, all), inHull) {
					empty = append(empty, set)
				}
			}
			if got := impl.EmptySets(s, k); !slices.Equal(got, empty) {
				t.Errorf("EmptySets(%v, %d) = %v, want %v", s, k, got, empty)
			}
		}
		if hull := impl.HullOf(s); !impl.IsConvexSet(s, setOf(hull...)) || impl.LargestConvex(s) < len(hull) {
			t.Errorf("%v: the hull %v is not convex, LargestConvex %d", s, hull, impl.LargestConvex(s))
		}
	}
}

func TestCapOfAndCupOf(t *testing.T) {
	cases := []struct {
		s         impl.Signs
		caps, cup []int
	}{
		// Two elements have no sign, and the first two are the first list.
		{sgn(3, "+"), []int{0, 1}, []int{0, 1, 2}},
		{sgn(3, "-"), []int{0, 1, 2}, []int{0, 1}},
		{sgn(4, "++++"), []int{0, 1}, []int{0, 1, 2, 3}},
		{sgn(4, "----"), []int{0, 1, 2, 3}, []int{0, 1}},
		// One three alone has the other sign.
		{sgn(4, "-+++"), []int{0, 1, 2}, []int{0, 1, 3}},
		{sgn(4, "+-++"), []int{0, 1, 3}, []int{0, 1, 2}},
		{sgn(4, "++-+"), []int{0, 2, 3}, []int{0, 1, 2}},
		{sgn(4, "+++-"), []int{1, 2, 3}, []int{0, 1, 2}},
		{sgn(4, "+---"), []int{0, 1, 3}, []int{0, 1, 2}},
		{sgn(4, "---+"), []int{0, 1, 2}, []int{1, 2, 3}},
		{sgn(4, "+--+"), []int{0, 1, 3}, []int{0, 1, 2}},
		// No order signs, and signs that break the rule, have caps and cups all the same.
		{sgn(4, "+-+-"), []int{0, 1, 3}, []int{0, 1, 2}},
		{sgn(4, "-+-+"), []int{0, 1, 2}, []int{0, 1, 3}},
		{sgn(5, "++++-+++++"), []int{0, 2, 4}, []int{0, 1, 2, 3}},
		{sgn(5, "+++++-++++"), []int{0, 3, 4}, []int{0, 1, 2, 3}},
		{sgn(5, "----+-----"), []int{0, 1, 2, 3}, []int{0, 2, 4}},
		// The longest list is not the first one, and of several the one with 0 or with the lesser second element.
		{sgn(5, "------++++"), []int{0, 1, 2}, []int{1, 2, 3, 4}},
		{sgn(5, "-+++++++++"), []int{0, 1, 2}, []int{0, 1, 3, 4}},
		{sgn(5, "+--+------"), []int{0, 1, 3, 4}, []int{0, 1, 2}},
		{sgn(5, "+++-++++++"), []int{0, 2, 3}, []int{0, 1, 2, 4}},
		{allPlus(5), []int{0, 1}, []int{0, 1, 2, 3, 4}},
		{nested(), []int{0, 2, 3}, []int{0, 1, 2}},
		{shells(), []int{0, 1, 2, 3}, []int{2, 3, 5, 6}},
		{seven(), []int{0, 2, 5}, []int{0, 1, 2, 3}},
		{allPlus(7), []int{0, 1}, []int{0, 1, 2, 3, 4, 5, 6}},
		{allMinus(7), []int{0, 1, 2, 3, 4, 5, 6}, []int{0, 1}},
		{impl.Signs{}, nil, nil}, {sgn(2, ""), nil, nil}, {sgn(2, "+"), nil, nil}, {sgn(3, ""), nil, nil}, {sgn(3, "0"), nil, nil}, {sgn(3, "++"), nil, nil}, {sgn(4, "+++"), nil, nil}, {sgn(4, "+++ "), nil, nil}, {sgn(8, strings.Repeat("+", 56)), nil, nil},
	}
	for _, c := range cases {
		if got := impl.CapOf(c.s); !slices.Equal(got, c.caps) {
			t.Errorf("CapOf(%v) = %v, want %v", c.s, got, c.caps)
		}
		if got := impl.CupOf(c.s); !slices.Equal(got, c.cup) {
			t.Errorf("CupOf(%v) = %v, want %v", c.s, got, c.cup)
		}
	}
}

func TestCapsOfAllSigns(t *testing.T) {
	for _, s := range slices.Concat(allSigns(3), allSigns(4), allSigns(5), sampleSigns(), orderSigns()) {
		if got, want := impl.CapOf(s), wantLongest(s, -1, nil, nil); !slices.Equal(got, want) {
			t.Errorf("CapOf(%v) = %v, want %v", s, got, want)
		}
		if got, want := impl.CupOf(s), wantLongest(s, 1, nil, nil); !slices.Equal(got, want) {
			t.Errorf("CupOf(%v) = %v, want %v", s, got, want)
		}
	}
}

// isSteeper tells whether the way from b to c rises more than that from a to b, for points that are ordered by different X.
func isSteeper(a impl.Point, b impl.Point, c impl.Point) bool {
	return (c.Y-b.Y)*(b.X-a.X) > (b.Y-a.Y)*(c.X-b.X)
}

// TestCapsOfPoints takes points from the left to the right: the ways of a cup get steeper, and those of a cap less steep.
func TestCapsOfPoints(t *testing.T) {
	count := 0
	for _, unsorted := range orderPoints() {
		list := impl.SortPoints(unsorted)
		sameX := func(a impl.Point, b impl.Point) bool { return a.X == b.X }
		if len(slices.CompactFunc(slices.Clone(list), sameX)) < len(list) {
			continue
		}
		count++
		s := signsOfPoints(list)
		for _, steeper := range []bool{true, false} {
			longest := 0
			for set := range 1 << len(list) {
				chain := elementsOf(len(list), set)
				bends := true
				for at := 2; at < len(chain); at++ {
					bends = bends && isSteeper(list[chain[at-2]], list[chain[at-1]], list[chain[at]]) == steeper
				}
				if bends {
					longest = max(longest, len(chain))
				}
			}
			got := impl.CapOf(s)
			if steeper {
				got = impl.CupOf(s)
			}
			if len(got) != longest || longest > 2 && !impl.IsConvexSet(s, setOf(got...)) {
				t.Errorf("%v: steeper %t, %v, longest %d", list, steeper, got, longest)
			}
		}
	}
	if count < 5 {
		t.Errorf("only %d lists have points with different X", count)
	}
}

// TestConvexSetsOfAlikeSigns holds because opposite signs exchange caps and cups alone, and renamed elements stay where they are.
func TestConvexSetsOfAlikeSigns(t *testing.T) {
	for _, s := range orderSigns() {
		opposite, renamed, names := alikeSigns(t, s)
		if !slices.Equal(impl.CapOf(s), impl.CupOf(opposite)) || !slices.Equal(impl.CupOf(s), impl.CapOf(opposite)) {
			t.Errorf("%v: CapOf %v, CupOf %v, of the opposite %v, %v", s, impl.CapOf(s), impl.CupOf(s), impl.CapOf(opposite), impl.CupOf(opposite))
		}
		if impl.LargestConvex(s) != impl.LargestConvex(opposite) || impl.LargestConvex(s) != impl.LargestConvex(renamed) {
			t.Errorf("LargestConvex(%v) = %d, of the opposite %d, renamed %d", s, impl.LargestConvex(s), impl.LargestConvex(opposite), impl.LargestConvex(renamed))
		}
		for k := 3; k <= s.N; k++ {
			var moved []int
			for _, set := range impl.EmptySets(s, k) {
				var list []int
				for _, e := range elementsOf(s.N, set) {
					list = append(list, names[e])
				}
				moved = append(moved, setOf(list...))
			}
			slices.Sort(moved)
			if got := impl.EmptySets(renamed, k); !slices.Equal(got, moved) {
				t.Errorf("EmptySets(%v, %d) = %v, want %v", renamed, k, got, moved)
			}
			if !slices.Equal(impl.EmptySets(s, k), impl.EmptySets(opposite, k)) || !slices.Equal(impl.ConvexSets(s, k), impl.ConvexSets(opposite, k)) {
				t.Errorf("%v, %d: EmptySets %v, ConvexSets %v, of the opposite %v, %v", s, k, impl.EmptySets(s, k), impl.ConvexSets(s, k), impl.EmptySets(opposite, k), impl.ConvexSets(opposite, k))
			}
		}
	}
}

func TestConvexSetsOfFarNumbers(t *testing.T) {
	for _, s := range []impl.Signs{sgn(3, "+"), allPlus(7), shells()} {
		for _, far := range farNumbers() {
			if convex, empty := impl.ConvexSets(s, far), impl.EmptySets(s, far); (far < 3 || far > s.N) && len(convex)+len(empty) != 0 {
				t.Errorf("%v: ConvexSets of %d: %v, EmptySets %v", s, far, convex, empty)
			}
			// The lowest bits alone are a convex set.
			for _, set := range []int{far, far&^127 | 7} {
				if (set < 0 || set > 127) && impl.IsConvexSet(s, set) {
					t.Errorf("IsConvexSet(%v, %d) = true", s, set)
				}
			}
		}
	}
}

func TestConvexSetsOfNoOrderSigns(t *testing.T) {
	for _, s := range moreDisorderSigns() {
		for _, set := range []int{-1, 0, 1, 3, 7, 11, 14, 15, 31, 127} {
			if impl.IsConvexSet(s, set) {
				t.Errorf("IsConvexSet(%v, %d) = true", clip(s), set)
			}
		}
		for _, k := range []int{-1, 0, 1, 2, 3, 4, 5, 7, s.N} {
			if convex, empty := impl.ConvexSets(s, k), impl.EmptySets(s, k); len(convex)+len(empty) != 0 {
				t.Errorf("%v, %d: ConvexSets %v, EmptySets %v", clip(s), k, convex, empty)
			}
		}
		if largest, sum := impl.LargestConvex(s), impl.EvenSum(s); largest != -1 || sum != -1 {
			t.Errorf("%v: LargestConvex %d, EvenSum %d", clip(s), largest, sum)
		}
	}
}

func TestCapsOfNoSigns(t *testing.T) {
	list := append(badSigns(), sgn(-1, ""), sgn(0, ""), sgn(1, ""), sgn(-64, ""), sgn(64, ""), sgn(math.MinInt, ""), sgn(math.MaxInt, "+"))
	for _, s := range list {
		if caps, cup := impl.CapOf(s), impl.CupOf(s); len(caps)+len(cup) != 0 {
			t.Errorf("%v: CapOf %v, CupOf %v", clip(s), caps, cup)
		}
	}
}

func TestConvexSetsAreNewEachTime(t *testing.T) {
	s := sgn(4, "++-+")
	want := [][]int{{7, 11, 13, 14}, {11, 13, 14}, {0, 2, 3}, {0, 1, 2}}
	for range 2 {
		got := [][]int{impl.ConvexSets(s, 3), impl.EmptySets(s, 3), impl.CapOf(s), impl.CupOf(s)}
		if !slices.EqualFunc(got, want, slices.Equal) {
			t.Errorf("%v: %v, want %v", s, got, want)
		}
		checkApart(t, got, want)
	}
}
