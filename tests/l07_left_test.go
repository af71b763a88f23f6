package tests

import (
	"math"
	"slices"
	"strings"
	"testing"

	"loop.example/g03104/impl"
)

// wantLeft returns the elements to the left of i, j; none if these are not two different elements.
func wantLeft(s impl.Signs, i int, j int) []int {
	var left []int
	for k := range s.N {
		if wantSignAt(s, i, j, k) == 1 {
			left = append(left, k)
		}
	}
	return left
}

func wantLeftTable(s impl.Signs) [][]int {
	table := make([][]int, s.N)
	for i := range table {
		table[i] = make([]int, s.N)
		for j := range s.N {
			table[i][j] = len(wantLeft(s, i, j))
		}
	}
	return table
}

func wantLeftRow(s impl.Signs) []int {
	row := make([]int, s.N-1)
	for number := range s.N * s.N {
		if i, j := number/s.N, number%s.N; i != j {
			row[len(wantLeft(s, i, j))]++
		}
	}
	return row
}

func wantCrossingSum(s impl.Signs) int {
	sum := 0
	for number := range s.N * s.N {
		if i, j := number/s.N, number%s.N; i < j {
			sum += len(wantLeft(s, i, j)) * len(wantLeft(s, j, i))
		}
	}
	return sum
}

func wantHalvingPairs(s impl.Signs) [][]int {
	var pairs [][]int
	for number := range s.N * s.N {
		i, j := number/s.N, number%s.N
		if left, right := len(wantLeft(s, i, j)), len(wantLeft(s, j, i)); i < j && left <= right+1 && right <= left+1 {
			pairs = append(pairs, []int{i, j})
		}
	}
	return pairs
}

// wantIsCut asks the three conditions of the document one after the other; s are order signs.
func wantIsCut(s impl.Signs, set int) bool {
	inner, outer := elementsOf(s.N, set), elementsOf(s.N, 1<<s.N-1-set)
	for e := range s.N {
		if slices.Contains(inner, e) && wantInTriangles(s, outer, e) || slices.Contains(outer, e) && wantInTriangles(s, inner, e) {
			return false
		}
	}
	for _, a := range inner {
		for _, b := range inner {
			for _, c := range outer {
				for _, d := range outer {
					if a < b && c < d && sameSplit(s, a, b, c, d) {
						return false
					}
				}
			}
		}
	}
	return true
}

// sameSplit tells whether both sets of the four elements are those of a and b and of c and d.
func sameSplit(s impl.Signs, a int, b int, c int, d int) bool {
	same, others := wantSplit(s, a, b, c, d)
	return same == setOf(a, b) && others == setOf(c, d)
}

func wantCutSets(s impl.Signs, k int) []int {
	var sets []int
	for set := range 1 << s.N {
		if len(elementsOf(s.N, set)) == k && wantIsCut(s, set) {
			sets = append(sets, set)
		}
	}
	return sets
}

// setsLeftOf returns, ascending, the sets that lie to the left of two elements, with none, one or both of these: any line between a set and the other elements can be moved until it meets two of them.
func setsLeftOf(n int, k int, leftOf func(i int, j int) []int) []int {
	found := map[int]bool{}
	for number := range n * n {
		i, j := number/n, number%n
		if i == j {
			continue
		}
		left := setOf(leftOf(i, j)...)
		for _, set := range []int{left, left + setOf(i), left + setOf(j), left + setOf(i, j)} {
			found[set] = true
		}
	}
	var sets []int
	for set := range 1 << n {
		if found[set] && len(elementsOf(n, set)) == k {
			sets = append(sets, set)
		}
	}
	return sets
}

// seven are signs of points with four extreme elements and three others.
func seven() impl.Signs {
	return signsOfPoints(pts(0, 0, 20, 1, 21, 19, -1, 18, 5, 6, 12, 4, 9, 13))
}

func TestLeftTable(t *testing.T) {
	cases := []struct {
		s    impl.Signs
		want [][]int
	}{
		{sgn(3, "+"), [][]int{{0, 1, 0}, {0, 0, 1}, {1, 0, 0}}},
		{sgn(3, "-"), [][]int{{0, 0, 1}, {1, 0, 0}, {0, 1, 0}}},
		{sgn(4, "++-+"), [][]int{{0, 2, 0, 1}, {0, 0, 2, 1}, {2, 0, 0, 1}, {1, 1, 1, 0}}},
		{sgn(4, "--+-"), [][]int{{0, 0, 2, 1}, {2, 0, 0, 1}, {0, 2, 0, 1}, {1, 1, 1, 0}}},
		{sgn(4, "+---"), [][]int{{0, 1, 0, 2}, {1, 0, 1, 1}, {2, 1, 0, 0}, {0, 1, 2, 0}}},
		{sgn(4, "++++"), [][]int{{0, 2, 1, 0}, {0, 0, 2, 1}, {1, 0, 0, 2}, {2, 1, 0, 0}}},
		{sgn(4, "----"), [][]int{{0, 0, 1, 2}, {2, 0, 0, 1}, {1, 2, 0, 0}, {0, 1, 2, 0}}},
		{sgn(4, "+--+"), [][]int{{0, 1, 0, 2}, {1, 0, 2, 0}, {2, 0, 0, 1}, {0, 2, 1, 0}}},
		{allPlus(5), [][]int{{0, 3, 2, 1, 0}, {0, 0, 3, 2, 1}, {1, 0, 0, 3, 2}, {2, 1, 0, 0, 3}, {3, 2, 1, 0, 0}}},
		{nested(), [][]int{{0, 4, 0, 2, 3, 1}, {0, 0, 4, 1, 2, 3}, {4, 0, 0, 3, 1, 2}, {2, 3, 1, 0, 2, 2}, {1, 2, 3, 2, 0, 2}, {3, 1, 2, 2, 2, 0}}},
		{allPlus(7), [][]int{{0, 5, 4, 3, 2, 1, 0}, {0, 0, 5, 4, 3, 2, 1}, {1, 0, 0, 5, 4, 3, 2}, {2, 1, 0, 0, 5, 4, 3}, {3, 2, 1, 0, 0, 5, 4}, {4, 3, 2, 1, 0, 0, 5}, {5, 4, 3, 2, 1, 0, 0}}},
	}
	for _, c := range cases {
		if got := impl.LeftTable(c.s); !slices.EqualFunc(got, c.want, slices.Equal) {
			t.Errorf("LeftTable(%v) = %v, want %v", c.s, got, c.want)
		}
		for i := -1; i <= c.s.N; i++ {
			for j := -1; j <= c.s.N; j++ {
				want := -1
				if i != j && i >= 0 && i < c.s.N && j >= 0 && j < c.s.N {
					want = c.want[i][j]
				}
				if got := impl.LeftCount(c.s, i, j); got != want {
					t.Errorf("LeftCount(%v, %d, %d) = %d, want %d", c.s, i, j, got, want)
				}
			}
		}
	}
}

func TestLeftRowAndCrossingSum(t *testing.T) {
	cases := []struct {
		s   impl.Signs
		row []int
		sum int
	}{
		{sgn(3, "+"), []int{3, 3}, 0}, {sgn(3, "-"), []int{3, 3}, 0},
		{sgn(4, "++-+"), []int{3, 6, 3}, 3}, {sgn(4, "+---"), []int{3, 6, 3}, 3},
		{sgn(4, "++++"), []int{4, 4, 4}, 2}, {sgn(4, "+--+"), []int{4, 4, 4}, 2},
		{allPlus(5), []int{5, 5, 5, 5}, 10}, {allMinus(5), []int{5, 5, 5, 5}, 10},
		{sgn(5, "------++++"), []int{3, 7, 7, 3}, 14},
		{signsOfPoints(pts(0, 0, 10, 0, 10, 9, 0, 8, 4, 3)), []int{4, 6, 6, 4}, 12},
		{signsOfPoints(pts(0, 0, 10, 0, 5, 9, 4, 3, 6, 4)), []int{3, 7, 7, 3}, 14},
		{nested(), []int{3, 6, 12, 6, 3}, 42},
		{allPlus(6), []int{6, 6, 6, 6, 6}, 30},
		{allPlus(7), []int{7, 7, 7, 7, 7, 7}, 70}, {allMinus(7), []int{7, 7, 7, 7, 7, 7}, 70},
	}
	for _, c := range cases {
		if got := impl.LeftRow(c.s); !slices.Equal(got, c.row) {
			t.Errorf("LeftRow(%v) = %v, want %v", c.s, got, c.row)
		}
		if got := impl.CrossingSum(c.s); got != c.sum {
			t.Errorf("CrossingSum(%v) = %d, want %d", c.s, got, c.sum)
		}
	}
}

func TestHalvingPairs(t *testing.T) {
	cases := []struct {
		s    impl.Signs
		want [][]int
	}{
		{sgn(3, "+"), [][]int{{0, 1}, {0, 2}, {1, 2}}}, {sgn(3, "-"), [][]int{{0, 1}, {0, 2}, {1, 2}}},
		{sgn(4, "++-+"), [][]int{{0, 3}, {1, 3}, {2, 3}}}, {sgn(4, "+---"), [][]int{{0, 1}, {1, 2}, {1, 3}}},
		{sgn(4, "++++"), [][]int{{0, 2}, {1, 3}}}, {sgn(4, "+--+"), [][]int{{0, 1}, {2, 3}}},
		{allPlus(5), [][]int{{0, 2}, {0, 3}, {1, 3}, {1, 4}, {2, 4}}},
		{nested(), [][]int{{0, 3}, {1, 4}, {2, 5}, {3, 4}, {3, 5}, {4, 5}}},
		{allPlus(6), [][]int{{0, 3}, {1, 4}, {2, 5}}},
		{allPlus(7), [][]int{{0, 3}, {0, 4}, {1, 4}, {1, 5}, {2, 5}, {2, 6}, {3, 6}}},
	}
	for _, c := range cases {
		if got := impl.HalvingPairs(c.s); !slices.EqualFunc(got, c.want, slices.Equal) {
			t.Errorf("HalvingPairs(%v) = %v, want %v", c.s, got, c.want)
		}
	}
}

func TestCutSets(t *testing.T) {
	cases := []struct {
		s    impl.Signs
		want [][]int
	}{
		{sgn(3, "+"), [][]int{{0}, {1, 2, 4}, {3, 5, 6}, {7}}},
		{sgn(3, "-"), [][]int{{0}, {1, 2, 4}, {3, 5, 6}, {7}}},
		// One and three only: each two elements can be cut off.
		{sgn(4, "++-+"), [][]int{{0}, {1, 2, 4}, {3, 5, 6, 9, 10, 12}, {11, 13, 14}, {15}}},
		{sgn(4, "+---"), [][]int{{0}, {1, 4, 8}, {3, 5, 6, 9, 10, 12}, {7, 11, 14}, {15}}},
		// Two and two only: each one and each three can be cut off.
		{sgn(4, "++++"), [][]int{{0}, {1, 2, 4, 8}, {3, 6, 9, 12}, {7, 11, 13, 14}, {15}}},
		{sgn(4, "+--+"), [][]int{{0}, {1, 2, 4, 8}, {5, 6, 9, 10}, {7, 11, 13, 14}, {15}}},
		{allPlus(5), [][]int{{0}, {1, 2, 4, 8, 16}, {3, 6, 12, 17, 24}, {7, 14, 19, 25, 28}, {15, 23, 27, 29, 30}, {31}}},
		{allPlus(7), [][]int{{0}, {1, 2, 4, 8, 16, 32, 64}, {3, 6, 12, 24, 48, 65, 96}, {7, 14, 28, 56, 67, 97, 112}, {15, 30, 60, 71, 99, 113, 120}, {31, 62, 79, 103, 115, 121, 124}, {63, 95, 111, 119, 123, 125, 126}, {127}}},
	}
	for _, c := range cases {
		for k := -2; k <= c.s.N+3; k++ {
			var want []int
			if k >= 0 && k <= c.s.N {
				want = c.want[k]
			}
			if got := impl.CutSets(c.s, k); !slices.Equal(got, want) {
				t.Errorf("CutSets(%v, %d) = %v, want %v", c.s, k, got, want)
			}
		}
	}
}

func TestLeftsOfOrderSigns(t *testing.T) {
	for _, s := range orderSigns() {
		table := wantLeftTable(s)
		if got := impl.LeftTable(s); !slices.EqualFunc(got, table, slices.Equal) {
			t.Errorf("LeftTable(%v) = %v, want %v", s, got, table)
		}
		for i := range s.N {
			for j := range s.N {
				want := table[i][j]
				if i == j {
					want = -1
				}
				if got := impl.LeftCount(s, i, j); got != want {
					t.Errorf("LeftCount(%v, %d, %d) = %d, want %d", s, i, j, got, want)
				}
			}
		}
		if got, want := impl.LeftRow(s), wantLeftRow(s); !slices.Equal(got, want) {
			t.Errorf("LeftRow(%v) = %v, want %v", s, got, want)
		}
		if got, want := impl.CrossingSum(s), wantCrossingSum(s); got != want {
			t.Errorf("CrossingSum(%v) = %d, want %d", s, got, want)
		}
		if got, want := impl.HalvingPairs(s), wantHalvingPairs(s); !slices.EqualFunc(got, want, slices.Equal) {
			t.Errorf("HalvingPairs(%v) = %v, want %v", s, got, want)
		}
	}
}

func TestCutSetsOfOrderSigns(t *testing.T) {
	check := func(s impl.Signs, k int) {
		if got, want := impl.CutSets(s, k), wantCutSets(s, k); !slices.Equal(got, want) {
			t.Errorf("CutSets(%v, %d) = %v, want %v", s, k, got, want)
		}
	}
	for at, s := range orderSigns() {
		if s.N > 4 && at%5 != 0 {
			continue
		}
		check(s, at%(s.N+1))
	}
	for _, s := range []impl.Signs{sgn(4, "++-+"), sgn(4, "+--+"), sgn(5, "------++++"), allMinus(5), nested(), shells(), seven()} {
		for k := range s.N + 1 {
			check(s, k)
		}
	}
}

// TestCountsTellTheSetsThatCanBeCutOff asks the promise itself: a set of k elements that can be cut off comes of a pair with k - 1 elements to the left and its first element.
func TestCountsTellTheSetsThatCanBeCutOff(t *testing.T) {
	for _, s := range orderSigns() {
		row := impl.LeftRow(s)
		for k := range s.N + 1 {
			sets := impl.CutSets(s, k)
			want := 1
			if k > 0 && k < s.N {
				want = row[k-1]
			}
			if len(sets) != want {
				t.Errorf("CutSets(%v, %d) = %v, want %d sets", s, k, sets, want)
			}
			leftOf := func(i int, j int) []int { return wantLeft(s, i, j) }
			if want := setsLeftOf(s.N, k, leftOf); !slices.Equal(sets, want) {
				t.Errorf("CutSets(%v, %d) = %v, want %v", s, k, sets, want)
			}
		}
	}
}

func TestLeftsOfPoints(t *testing.T) {
	for _, list := range orderPoints() {
		s := signsOfPoints(list)
		leftOf := func(i int, j int) []int {
			var left []int
			for k := range list {
				if bigArea(list[i], list[j], list[k]).Sign() > 0 {
					left = append(left, k)
				}
			}
			return left
		}
		for number := range len(list) * len(list) {
			i, j := number/len(list), number%len(list)
			if got, want := impl.LeftCount(s, i, j), len(leftOf(i, j)); i != j && got != want {
				t.Errorf("LeftCount of %v, %d, %d = %d, want %d", list, i, j, got, want)
			}
		}
		for k := range len(list) + 1 {
			if got, want := impl.CutSets(s, k), setsLeftOf(len(list), k, leftOf); !slices.Equal(got, want) {
				t.Errorf("CutSets of %v, %d = %v, want %v", list, k, got, want)
			}
		}
	}
}

// TestLeftsAndEarlierCounts compares the functions with those of earlier chapters.
func TestLeftsAndEarlierCounts(t *testing.T) {
	for _, s := range orderSigns() {
		row := impl.LeftRow(s)
		backward := slices.Clone(row)
		slices.Reverse(backward)
		if len(row) != s.N-1 || row[0] != impl.HullSize(s) || !slices.Equal(row, backward) {
			t.Errorf("LeftRow(%v) = %v, HullSize %d", s, row, impl.HullSize(s))
		}
		fours := s.N * (s.N - 1) * (s.N - 2) * (s.N - 3) / 24
		if sum, quads := impl.CrossingSum(s), impl.CountQuads(s); 3*fours-sum != quads {
			t.Errorf("CrossingSum(%v) = %d, CountQuads %d", s, sum, quads)
		}
		var single []int
		for i := range s.N {
			if impl.IsExtreme(s, i) {
				single = append(single, setOf(i))
			}
		}
		if got := impl.CutSets(s, 1); !slices.Equal(got, single) {
			t.Errorf("CutSets(%v, 1) = %v, want %v", s, got, single)
		}
		for k := range s.N + 1 {
			rest := impl.CutSets(s, s.N-k)
			slices.Reverse(rest)
			for at := range rest {
				rest[at] = 1<<s.N - 1 - rest[at]
			}
			if got := impl.CutSets(s, k); !slices.Equal(got, rest) {
				t.Errorf("CutSets(%v, %d) = %v, the rests %v", s, k, got, rest)
			}
		}
	}
}

// alikeSigns returns the opposite signs, and the signs with renamed elements together with their names.
func alikeSigns(t *testing.T, s impl.Signs) (opposite impl.Signs, renamed impl.Signs, names []int) {
	t.Helper()
	opposite, okOpposite := impl.OppositeSigns(s)
	for i := range s.N {
		names = append(names, (i+2)%s.N)
	}
	renamed, okRenamed := impl.RenameSigns(s, names)
	if !okOpposite || !okRenamed {
		t.Fatalf("%v: OppositeSigns %t, RenameSigns %t", s, okOpposite, okRenamed)
	}
	return opposite, renamed, names
}

// TestLeftsOfAlikeSigns holds because opposite signs exchange left and right, and renamed elements stay where they are.
func TestLeftsOfAlikeSigns(t *testing.T) {
	for _, s := range orderSigns() {
		opposite, renamed, names := alikeSigns(t, s)
		table, mirrored, moved := impl.LeftTable(s), impl.LeftTable(opposite), impl.LeftTable(renamed)
		for number := range s.N * s.N {
			i, j := number/s.N, number%s.N
			if table[i][j] != mirrored[j][i] || table[i][j] != moved[names[i]][names[j]] {
				t.Errorf("LeftTable(%v) = %v, of the opposite %v, renamed %v", s, table, mirrored, moved)
			}
		}
		if !slices.EqualFunc(impl.HalvingPairs(s), impl.HalvingPairs(opposite), slices.Equal) || impl.CrossingSum(s) != impl.CrossingSum(renamed) {
			t.Errorf("%v: HalvingPairs %v, of the opposite %v, CrossingSum %d, renamed %d", s, impl.HalvingPairs(s), impl.HalvingPairs(opposite), impl.CrossingSum(s), impl.CrossingSum(renamed))
		}
		for k := range s.N + 1 {
			if !slices.Equal(impl.CutSets(s, k), impl.CutSets(opposite, k)) || len(impl.CutSets(s, k)) != len(impl.CutSets(renamed, k)) {
				t.Errorf("CutSets(%v, %d) = %v, of the opposite %v, renamed %v", s, k, impl.CutSets(s, k), impl.CutSets(opposite, k), impl.CutSets(renamed, k))
			}
		}
	}
}

func TestLeftsOfNoElements(t *testing.T) {
	for _, s := range []impl.Signs{allPlus(7), shells()} {
		for _, far := range farNumbers() {
			for e := range s.N {
				if a, b := impl.LeftCount(s, far, e), impl.LeftCount(s, e, far); a != -1 || b != -1 {
					t.Errorf("LeftCount(%v) of %d and %d = %d, %d", s, far, e, a, b)
				}
			}
			if got := impl.LeftCount(s, far, far); got != -1 {
				t.Errorf("LeftCount(%v, %d, %d) = %d", s, far, far, got)
			}
			if got := impl.CutSets(s, far); far != s.N && len(got) != 0 {
				t.Errorf("CutSets(%v, %d) = %v", s, far, got)
			}
		}
		for e := range s.N {
			if got := impl.LeftCount(s, e, e); got != -1 {
				t.Errorf("LeftCount(%v, %d, %d) = %d", s, e, e, got)
			}
		}
		for _, k := range []int{0, 7} {
			if got := impl.CutSets(s, k); len(got) != 1 {
				t.Errorf("CutSets(%v, %d) = %v", s, k, got)
			}
		}
	}
}

// moreDisorderSigns has further signs, among them some whose N is a length that no list can have, or the length of an empty one.
func moreDisorderSigns() []impl.Signs {
	return append(disorderSigns(), sgn(-1, ""), sgn(0, ""), sgn(1, ""), sgn(2, "+"), sgn(-64, ""), sgn(64, ""), sgn(math.MinInt, ""), sgn(math.MaxInt, "+"), sgn(8, strings.Repeat("+", 56)))
}

func TestLeftsOfNoOrderSigns(t *testing.T) {
	for _, s := range moreDisorderSigns() {
		for number := range 25 {
			if i, j := number/5-1, number%5-1; impl.LeftCount(s, i, j) != -1 {
				t.Errorf("LeftCount(%v, %d, %d) = %d", clip(s), i, j, impl.LeftCount(s, i, j))
			}
		}
		if table, row := impl.LeftTable(s), impl.LeftRow(s); len(table) != 0 || len(row) != 0 {
			t.Errorf("%v: LeftTable %v, LeftRow %v", clip(s), table, row)
		}
		if sum, pairs := impl.CrossingSum(s), impl.HalvingPairs(s); sum != 0 || len(pairs) != 0 {
			t.Errorf("%v: CrossingSum %d, HalvingPairs %v", clip(s), sum, pairs)
		}
		for _, k := range []int{-1, 0, 1, 2, 3, 4, 5, 7, s.N} {
			if got := impl.CutSets(s, k); len(got) != 0 {
				t.Errorf("CutSets(%v, %d) = %v", clip(s), k, got)
			}
		}
	}
}

// checkApart lengthens and overwrites each list, and expects the lists after it to stay as they should be.
func checkApart(t *testing.T, lists [][]int, want [][]int) {
	t.Helper()
	for at, list := range lists {
		longer := append(list, -8, -8, -8, -8, -8, -8, -8)
		for i := range list {
			list[i] = -9
		}
		if !slices.EqualFunc(lists[at+1:], want[at+1:], slices.Equal) {
			t.Fatalf("after %v: %v", longer, lists)
		}
	}
}

func TestLeftsAreNewEachTime(t *testing.T) {
	s := sgn(4, "++-+")
	table, pairs := [][]int{{0, 2, 0, 1}, {0, 0, 2, 1}, {2, 0, 0, 1}, {1, 1, 1, 0}}, [][]int{{0, 3}, {1, 3}, {2, 3}}
	for range 2 {
		gotTable, gotPairs, row, sets := impl.LeftTable(s), impl.HalvingPairs(s), impl.LeftRow(s), impl.CutSets(s, 2)
		if !slices.EqualFunc(gotTable, table, slices.Equal) || !slices.EqualFunc(gotPairs, pairs, slices.Equal) || !slices.Equal(row, []int{3, 6, 3}) || !slices.Equal(sets, []int{3, 5, 6, 9, 10, 12}) {
			t.Errorf("%v: LeftTable %v, HalvingPairs %v, LeftRow %v, CutSets %v", s, gotTable, gotPairs, row, sets)
		}
		checkApart(t, gotTable, table)
		checkApart(t, gotPairs, pairs)
		for _, list := range [][]int{row, sets} {
			for i := range list {
				list[i] = -9
			}
		}
	}
}
