package tests

import (
	"cmp"
	"math"
	"math/big"
	"math/rand/v2"
	"slices"
	"sync"
	"testing"

	"loop.example/g03104/impl"
)

// wantSignsOfWiring does not look for the exchanges of j: when i and k are exchanged, j is before both if it has passed i, and behind both if k has passed it.
func wantSignsOfWiring(n int, w []int) impl.Signs {
	swaps := wantSwaps(n, w)
	var text []byte
	for _, three := range ascendingThrees(n) {
		ends := []int{three[0], three[2]}
		k := slices.IndexFunc(swaps, func(swap []int) bool { return slices.Equal(swap, ends) })
		if order := wantAfter(n, w[:k]); slices.Index(order, three[1]) < slices.Index(order, three[0]) {
			text = append(text, '+')
		} else {
			text = append(text, '-')
		}
	}
	return sgn(n, string(text))
}

// wantMayExchange asks of each three wires for their three exchanges in the order that their sign wants.
func wantMayExchange(s impl.Signs, done map[[2]int]bool, a int, b int) bool {
	for _, three := range ascendingThrees(s.N) {
		i, j, k := three[0], three[1], three[2]
		pairs := [][2]int{{i, j}, {i, k}, {j, k}}
		if wantSignAt(s, i, j, k) < 0 {
			slices.Reverse(pairs)
		}
		at := slices.Index(pairs, [2]int{a, b})
		for earlier := range max(at, 0) {
			if !done[pairs[earlier]] {
				return false
			}
		}
	}
	return true
}

// wantWiringOfSigns follows the words of the document.
func wantWiringOfSigns(s impl.Signs) ([]int, bool) {
	if !wantAreSigns(s) || s.N > 6 {
		return nil, false
	}
	done := map[[2]int]bool{}
	var w []int
	for range pairsOf(s.N) {
		order := wantAfter(s.N, w)
		found := -1
		for p := s.N - 2; p >= 0; p-- {
			if a, b := order[p], order[p+1]; a < b && wantMayExchange(s, done, a, b) {
				found = p
			}
		}
		if found < 0 {
			return nil, false
		}
		done[[2]int{order[found], order[found+1]}] = true
		w = append(w, found)
	}
	return w, true
}

// leastWirings has, for the signs of all wirings of 3 to 5 wires, the first one of the wirings with these signs in lexicographic order.
var leastWirings = sync.OnceValue(func() map[impl.Signs][]int {
	least := map[impl.Signs][]int{}
	for _, c := range allWirings() {
		s := wantSignsOfWiring(c.n, c.w)
		if _, ok := least[s]; !ok {
			least[s] = c.w
		}
	}
	return least
})

// changesOnce tells whether, for each four elements, the signs of the first three to the last three change at most once: just then there is a wiring with these signs.
func changesOnce(s impl.Signs) bool {
	for _, four := range ascendingFours(s.N) {
		changes, last := 0, 0
		for without := 3; without >= 0; without-- {
			three := slices.Delete(slices.Clone(four), without, without+1)
			sign := wantSignAt(s, three[0], three[1], three[2])
			if last == -sign {
				changes++
			}
			last = sign
		}
		if changes > 1 {
			return false
		}
	}
	return true
}

// sixSorted has all signs of six elements that change at most once; each of them begins with the signs of element 0.
var sixSorted = sync.OnceValue(func() []impl.Signs {
	var list []impl.Signs
	for _, five := range allSigns(5) {
		if !changesOnce(five) {
			continue
		}
		for bits := range 1 << 10 {
			if s := sgn(6, signText(10, uint64(bits))+five.Text); changesOnce(s) {
				list = append(list, s)
			}
		}
	}
	return list
})

// withSignChanged returns the signs with another byte at one place.
func withSignChanged(s impl.Signs, at int) impl.Signs {
	text := []byte(s.Text)
	text[at] = '+' + '-' - text[at]
	return sgn(s.N, string(text))
}

// slopeOf asks for different X.
func slopeOf(a impl.Point, b impl.Point) *big.Rat {
	minus := func(p int, q int) *big.Int { return new(big.Int).Sub(big.NewInt(int64(p)), big.NewInt(int64(q))) }
	return new(big.Rat).SetFrac(minus(b.Y, a.Y), minus(b.X, a.X))
}

func haveEqualX(list []impl.Point) bool {
	seen := map[int]bool{}
	for _, p := range list {
		seen[p.X] = true
	}
	return len(seen) < len(list)
}

// sortedPoints sorts without the program.
func sortedPoints(list []impl.Point) []impl.Point {
	sorted := slices.Clone(list)
	slices.SortFunc(sorted, func(a impl.Point, b impl.Point) int { return cmp.Or(a.X-b.X, a.Y-b.Y) })
	return sorted
}

// wantPairsBySlope asks for sorted points with different X.
func wantPairsBySlope(sorted []impl.Point) [][]int {
	pairs := pairsOf(len(sorted))
	slices.SortStableFunc(pairs, func(v []int, w []int) int {
		return slopeOf(sorted[v[0]], sorted[v[1]]).Cmp(slopeOf(sorted[w[0]], sorted[w[1]]))
	})
	return pairs
}

func wantWiringOfPoints(list []impl.Point) ([]int, bool) {
	if !wantArePoints(list) || len(list) > 6 || haveEqualX(list) {
		return nil, false
	}
	return wantFrom(len(list), wantPairsBySlope(sortedPoints(list)))
}

// wiredPoints are lists of 3 to 7 points: those of orderPoints, and scattered ones on small grids, on which many slopes and many X are equal.
var wiredPoints = sync.OnceValue(func() [][]impl.Point {
	lists := orderPoints()
	source := rand.New(rand.NewPCG(13, 7))
	for number := range 3000 {
		side := 4 + number%9
		var list []impl.Point
		for range 3 + number%5 {
			list = append(list, impl.Point{X: source.IntN(side) - side/2, Y: source.IntN(side) - side/2})
		}
		if wantArePoints(list) {
			lists = append(lists, list)
		}
	}
	return lists
})

func checkSignsOfWiring(t *testing.T, n int, w []int) {
	t.Helper()
	got, ok := impl.SignsOfWiring(n, w)
	if !wantIsWiring(n, w) {
		if ok || got != (impl.Signs{}) {
			t.Errorf("SignsOfWiring(%d, %.30v) = %v, %t", n, w, clip(got), ok)
		}
		return
	}
	if want := wantSignsOfWiring(n, w); !ok || got != want {
		t.Errorf("SignsOfWiring(%d, %v) = %v, %t, want %v", n, w, got, ok, want)
	}
}

func checkWiringOfSigns(t *testing.T, s impl.Signs) {
	t.Helper()
	got, ok := impl.WiringOfSigns(s)
	want, wantOK := wantWiringOfSigns(s)
	if ok != wantOK || !slices.Equal(got, want) || impl.IsSorted(s) != wantOK {
		t.Errorf("%v: WiringOfSigns %v, %t, want %v, %t, IsSorted %t", clip(s), got, ok, want, wantOK, impl.IsSorted(s))
	}
}

func checkWiringOfPoints(t *testing.T, list []impl.Point) {
	t.Helper()
	got, ok := impl.WiringOfPoints(list)
	want, wantOK := wantWiringOfPoints(list)
	if ok != wantOK || !slices.Equal(got, want) {
		t.Errorf("WiringOfPoints(%.12v) = %v, %t, want %v, %t", list, got, ok, want, wantOK)
	}
}

func TestSignsAndWiringsOfCases(t *testing.T) {
	// The last one is the wiring of the signs: places far apart are exchanged there in another order.
	cases := []struct {
		n                  int
		wiring, text, back string
	}{
		// Three wires have two wirings, each with signs of its own.
		{3, "010", "+", "010"}, {3, "101", "-", "101"},
		{4, "010210", "++++", "010210"}, {4, "012010", "++++", "010210"}, {4, "012101", "+++-", "012101"},
		{4, "021021", "++--", "021021"}, {4, "201021", "++--", "021021"}, {4, "021201", "++--", "021021"}, {4, "201201", "++--", "021021"},
		{4, "210121", "+---", "210121"}, {4, "101210", "-+++", "101210"}, {4, "102102", "--++", "102102"}, {4, "120102", "--++", "102102"},
		{4, "121012", "---+", "121012"}, {4, "210212", "----", "210212"}, {4, "212012", "----", "210212"},
		{5, "0102103210", "++++++++++", "0102103210"}, {5, "3210321323", "----------", "3210321323"}, {5, "0213021302", "+++--+--++", "0210321032"}, {5, "1302130213", "---++-++--", "1032103213"},
		{6, "010210321043210", "++++++++++++++++++++", "010210321043210"}, {6, "432104321432434", "--------------------", "432104321432434"},
	}
	for _, c := range cases {
		s, ok := impl.SignsOfWiring(c.n, placesOf(c.wiring))
		back, fine := impl.WiringOfSigns(sgn(c.n, c.text))
		if !ok || s != sgn(c.n, c.text) || !fine || !slices.Equal(back, placesOf(c.back)) || !impl.IsSorted(sgn(c.n, c.text)) {
			t.Errorf("%d:%s: SignsOfWiring %v %t, WiringOfSigns %v %t", c.n, c.wiring, s, ok, back, fine)
		}
	}
	// In the first six the sign changes twice, and in the other two three times.
	for _, text := range []string{"+-++", "++-+", "+--+", "-++-", "-+--", "--+-", "+-+-", "-+-+"} {
		if w, ok := impl.WiringOfSigns(sgn(4, text)); ok || len(w) != 0 || impl.IsSorted(sgn(4, text)) {
			t.Errorf("WiringOfSigns(4:%s) = %v, %t, IsSorted %t", text, w, ok, impl.IsSorted(sgn(4, text)))
		}
	}
}

func TestSignsOfWirings(t *testing.T) {
	for number, c := range someWirings() {
		checkSignsOfWiring(t, c.n, c.w)
		if got, _ := impl.SignsOfWiring(c.n, c.w); !impl.IsAcyclic(got) {
			t.Errorf("SignsOfWiring(%d, %v) = %v are no order signs", c.n, c.w, got)
		}
		checkSignsOfWiring(t, c.n-1, c.w)
		checkSignsOfWiring(t, c.n+1, c.w)
		checkSignsOfWiring(t, c.n, append(slices.Clone(c.w), 0))
		for k := range c.w {
			checkSignsOfWiring(t, c.n, c.w[:k])
			for p := -1; p < c.n && number%5 == 0; p++ {
				changed := slices.Clone(c.w)
				changed[k] = p
				checkSignsOfWiring(t, c.n, changed)
			}
		}
	}
}

func TestSignsOfNoWirings(t *testing.T) {
	for _, c := range badWirings() {
		checkSignsOfWiring(t, c.n, c.w)
	}
	for _, n := range []int{math.MinInt, -1, 0, 1, 2, 3, 4, 5, 6, 7, 448, 100001, math.MaxInt} {
		checkSignsOfWiring(t, n, make([]int, 100000))
	}
}

// TestWiringOfSignsIsTheLeast holds because the search never has to go back: where signs have a wiring, each of its beginnings with the least places leads to one.
func TestWiringOfSignsIsTheLeast(t *testing.T) {
	counts := make([]int, 6)
	for n := 3; n <= 5; n++ {
		for _, s := range allSigns(n) {
			want, wantOK := leastWirings()[s]
			got, ok := impl.WiringOfSigns(s)
			if ok != wantOK || !slices.Equal(got, want) || impl.IsSorted(s) != wantOK || changesOnce(s) != wantOK {
				t.Errorf("%v: WiringOfSigns %v, %t, want %v, %t, IsSorted %t", s, got, ok, want, wantOK, impl.IsSorted(s))
			}
			if ok {
				counts[n]++
			}
			checkWiringOfSigns(t, s)
		}
	}
	if !slices.Equal(counts, []int{0, 0, 0, 2, 8, 62}) {
		t.Errorf("%v signs have a wiring", counts)
	}
}

func TestWiringOfSignsOfSixElements(t *testing.T) {
	if count := len(sixSorted()); count != 908 {
		t.Fatalf("there are %d signs of six elements that change at most once", count)
	}
	sorted := map[impl.Signs]bool{}
	for _, s := range sixSorted() {
		sorted[s] = true
		w, ok := impl.WiringOfSigns(s)
		if !ok || !wantIsWiring(6, w) || wantSignsOfWiring(6, w) != s || !impl.IsSorted(s) {
			t.Errorf("WiringOfSigns(%v) = %v, %t, IsSorted %t", s, w, ok, impl.IsSorted(s))
		}
	}
	for number, s := range sixSorted() {
		if number%9 == 0 {
			checkWiringOfSigns(t, s)
		}
		for at := range s.Text {
			changed := withSignChanged(s, at)
			if w, ok := impl.WiringOfSigns(changed); ok != sorted[changed] || !ok && len(w) != 0 || impl.IsSorted(changed) != ok {
				t.Errorf("WiringOfSigns(%v) = %v, %t, IsSorted %t", changed, w, ok, impl.IsSorted(changed))
			}
		}
	}
}

func TestWiringOfSignsOfSamples(t *testing.T) {
	for number, s := range sampleSigns() {
		if s.N < 6 || number%4 == 0 {
			checkWiringOfSigns(t, s)
		}
	}
}

// TestSevenElementsAreNotSorted takes signs that would have a wiring if there were so many wires.
func TestSevenElementsAreNotSorted(t *testing.T) {
	seven := []impl.Signs{allPlus(7), allMinus(7), seven(), signsOfPoints(parabola(7)), signsOfPoints(sortedPoints(pts(0, 50, 10, -40, -11, -40, 3, 5, -4, 6, 1, 9, 45, -7)))}
	for _, s := range seven {
		if w, ok := impl.WiringOfSigns(s); ok || len(w) != 0 || impl.IsSorted(s) {
			t.Errorf("WiringOfSigns(%v) = %v, %t, IsSorted %t", s, w, ok, impl.IsSorted(s))
		}
	}
}

func TestWiringOfNoSigns(t *testing.T) {
	for _, s := range badSigns() {
		if w, ok := impl.WiringOfSigns(s); ok || len(w) != 0 || impl.IsSorted(s) {
			t.Errorf("WiringOfSigns(%v) = %v, %t, IsSorted %t", clip(s), w, ok, impl.IsSorted(s))
		}
	}
}

// TestWiringsAndTheirSignsLeadBack takes each wiring to the first one with the same signs.
func TestWiringsAndTheirSignsLeadBack(t *testing.T) {
	for _, c := range someWirings() {
		s, _ := impl.SignsOfWiring(c.n, c.w)
		first, ok := impl.WiringOfSigns(s)
		same, fine := impl.SignsOfWiring(c.n, first)
		if !ok || !fine || same != s || slices.Compare(first, c.w) > 0 {
			t.Errorf("%v has the signs %v, their wiring %v has %v", c, s, first, same)
		}
		if again, _ := impl.WiringOfSigns(same); !slices.Equal(again, first) {
			t.Errorf("%v leads to %v, and then to %v", c, first, again)
		}
	}
}

// TestSignsOfFlippedAndTurnedWirings holds because a wiring in reverse order has each three exchanges in reverse order, and a turned one has them from the second one on, with both wires of the first one renamed.
func TestSignsOfFlippedAndTurnedWirings(t *testing.T) {
	for _, c := range someWirings() {
		s := wantSignsOfWiring(c.n, c.w)
		flipped, _ := impl.FlipWiring(c.n, c.w)
		opposite, _ := impl.OppositeSigns(s)
		if got, ok := impl.SignsOfWiring(c.n, flipped); !ok || got != opposite {
			t.Errorf("SignsOfWiring(%d, %v) = %v, %t, want %v", c.n, flipped, got, ok, opposite)
		}
		turned, _ := impl.TurnWiring(c.n, c.w)
		// Wire i begins there as the one that is at place i after the first exchange.
		renamed, _ := impl.RenameSigns(s, wantAfter(c.n, c.w[:1]))
		if got, ok := impl.SignsOfWiring(c.n, turned); !ok || got != renamed {
			t.Errorf("SignsOfWiring(%d, %v) = %v, %t, want %v", c.n, turned, got, ok, renamed)
		}
	}
}

func TestWiringOfPointsOfCases(t *testing.T) {
	cases := []struct {
		points, wiring string
	}{
		{"0,0 1,0 2,1", "010"}, {"0,0 1,1 2,0", "101"}, {"2,1 0,0 1,0", "010"}, {"1,1 2,0 0,0", "101"},
		{"0,0 4,1 1,3 2,2", "121012"}, {"0,0 1,3 2,2 4,1", "121012"}, {"4,1 2,2 1,3 0,0", "121012"},
		// The slopes of 0 2 and 1 3 are equal, and those of 0 1 and 2 3, though 2 3 is at a lesser place.
		{"0,0 1,5 2,1 3,6", "102120"},
		{"3,6 2,1 1,5 0,0", "102120"},
		// The slopes of 0 1 and 2 3 are equal, and those of 0 2 and 1 3, though 1 3 is at a lesser place.
		{"0,0 1,-1 2,1 3,0", "021201"},
		// The slopes of 0 3 and 1 2 are 0.
		{"0,0 1,1 2,1 3,0", "210212"}, {"0,0 1,-1 2,-1 3,0", "012010"},
		// X of two points differ by 1 only, or by as much as they can.
		{"-50,-50 0,0 50,49", "101"}, {"-50,-50 49,48 50,50", "010"}, {"-50,50 -49,-50 50,-49", "010"}, {"-50,-50 -49,50 50,49", "101"}, {"-50,50 49,-50 50,49", "010"},
		// The parabola has ascending slopes, and many of them are equal.
		{"-2,4 -1,1 0,0 1,1 2,4", "0120312010"}, {"-3,9 -2,4 -1,1 0,0 1,1 2,4", "012031420312010"},
	}
	for _, c := range cases {
		list, ok := impl.ParsePoints(c.points)
		if !ok {
			t.Fatalf("%s are no points", c.points)
		}
		w, ok := impl.WiringOfPoints(list)
		if !ok || !slices.Equal(w, placesOf(c.wiring)) {
			t.Errorf("WiringOfPoints(%s) = %v, %t, want %s", c.points, w, ok, c.wiring)
		}
	}
}

func TestWiringOfPoints(t *testing.T) {
	count := 0
	for _, list := range wiredPoints() {
		checkWiringOfPoints(t, list)
		if _, ok := impl.WiringOfPoints(list); ok {
			count++
		}
	}
	if count < 300 {
		t.Errorf("only %d lists have a wiring", count)
	}
}

// TestWiringOfEachThreePoints takes all lists of three points of a small grid, in each order, with equal X and on a line.
func TestWiringOfEachThreePoints(t *testing.T) {
	for number := range 12 * 12 * 12 {
		var list []impl.Point
		for _, at := range []int{number / 144, number / 12 % 12, number % 12} {
			list = append(list, impl.Point{X: at / 3, Y: at % 3})
		}
		checkWiringOfPoints(t, list)
	}
}

func checkNoWiringOfPoints(t *testing.T, list []impl.Point) {
	t.Helper()
	if w, ok := impl.WiringOfPoints(list); ok || len(w) != 0 {
		t.Errorf("WiringOfPoints(%.12v) = %v, %t", list, w, ok)
	}
}

func TestWiringOfNoPoints(t *testing.T) {
	for _, list := range badPoints() {
		checkNoWiringOfPoints(t, list)
	}
	// Three of these are on a line, or a coordinate is beyond the limit, though each two have a slope.
	for _, text := range []string{"0,0 1,0 2,0", "0,0 1,1 2,2 3,4", "0,0 1,5 2,1 3,7 4,2", "-51,0 0,1 3,3", "0,0 1,5 51,3", "0,0 1,51 2,3", "0,0 1,-51 2,3"} {
		var list []impl.Point
		for _, part := range impl.SplitByte(text, ' ') {
			both := impl.SplitByte(part, ',')
			x, _ := impl.ParseInt(both[0])
			y, _ := impl.ParseInt(both[1])
			list = append(list, impl.Point{X: x, Y: y})
		}
		checkNoWiringOfPoints(t, list)
	}
}

func TestWiringOfTooManyPoints(t *testing.T) {
	six := parabola(6)
	if _, ok := impl.WiringOfPoints(six); !ok || len(six) != impl.MaxWires {
		t.Errorf("%v have no wiring", six)
	}
	checkNoWiringOfPoints(t, parabola(7))
	checkNoWiringOfPoints(t, parabola(8))
	for _, list := range wiredPoints() {
		if len(list) == 7 {
			checkNoWiringOfPoints(t, list)
		}
	}
}

// TestWiringOfPointsWithEqualX moves one of the points of a parabola to the X of each other one; then it is above or below that one.
func TestWiringOfPointsWithEqualX(t *testing.T) {
	for n := 3; n <= 6; n++ {
		for i := range n {
			for j := range n {
				for y := -50; y <= 50; y += 5 {
					list := parabola(n)
					list[i] = impl.Point{X: list[j].X, Y: y}
					if i == j || !impl.ArePoints(list) {
						continue
					}
					checkNoWiringOfPoints(t, list)
					// Their signs have a wiring all the same.
					if s, _ := impl.SignsOf(impl.SortPoints(list)); !impl.IsSorted(s) {
						t.Errorf("%v are not sorted", list)
					}
				}
			}
		}
	}
}

// TestPointsAndTheirWiringHaveTheSameSigns asks the promise itself.
func TestPointsAndTheirWiringHaveTheSameSigns(t *testing.T) {
	for _, list := range wiredPoints() {
		if len(list) > 6 || haveEqualX(list) {
			continue
		}
		want := signsOfPoints(sortedPoints(list))
		sorted, _ := impl.SignsOf(impl.SortPoints(list))
		w, ok := impl.WiringOfPoints(list)
		s, fine := impl.SignsOfWiring(len(list), w)
		if !ok || !fine || s != want || sorted != want || !impl.IsSorted(s) {
			t.Errorf("%v have the signs %v, %v, and their wiring %v has %v", list, want, sorted, w, s)
		}
		least, _ := impl.WiringOfSigns(sorted)
		if same, ok := impl.SignsOfWiring(len(list), least); !ok || same != want || slices.Compare(least, w) > 0 {
			t.Errorf("%v have the signs %v, and the wiring %v of these has %v", list, want, least, same)
		}
	}
}

// TestWiresOfPointsFollowATurningLine holds because the wires stand, between two slopes, in the order in which a line of a slope between them meets the points from below.
func TestWiresOfPointsFollowATurningLine(t *testing.T) {
	for _, list := range wiredPoints() {
		w, ok := impl.WiringOfPoints(list)
		if !ok {
			continue
		}
		sorted := sortedPoints(list)
		pairs := wantPairsBySlope(sorted)
		for k := 1; k < len(pairs); k++ {
			last, next := slopeOf(sorted[pairs[k-1][0]], sorted[pairs[k-1][1]]), slopeOf(sorted[pairs[k][0]], sorted[pairs[k][1]])
			if last.Cmp(next) == 0 {
				continue
			}
			slope := last.Quo(last.Add(last, next), big.NewRat(2, 1))
			height := func(i int) *big.Rat {
				rise := new(big.Rat).Mul(slope, big.NewRat(int64(sorted[i].X), 1))
				return rise.Sub(big.NewRat(int64(sorted[i].Y), 1), rise)
			}
			order := impl.WiresAfter(len(sorted), w, k)
			if !slices.IsSortedFunc(order, func(i int, j int) int { return height(i).Cmp(height(j)) }) {
				t.Errorf("%v: the wires are %v at the slope %v", list, order, slope)
			}
		}
	}
}

func checkSlopes(t *testing.T, a impl.Point, b impl.Point, c impl.Point, d impl.Point) {
	t.Helper()
	want := allWithin([]impl.Point{a, b, c, d}, turnLimit) && a.X < b.X && c.X < d.X && slopeOf(a, b).Cmp(slopeOf(c, d)) < 0
	if got := impl.SlopeBefore(a, b, c, d); got != want {
		t.Errorf("SlopeBefore(%v, %v, %v, %v) = %t", a, b, c, d, got)
	}
}

func TestSlopeBefore(t *testing.T) {
	cases := []struct {
		coordinates []int
		want        bool
	}{
		{[]int{0, 0, 2, 1, 0, 0, 1, 1}, true}, {[]int{0, 0, 1, 1, 0, 0, 2, 1}, false}, {[]int{2, 1, 0, 0, 0, 0, 1, 1}, false}, {[]int{0, 0, 2, 1, 1, 1, 0, 0}, false}, {[]int{2, 1, 0, 0, 1, 1, 0, 0}, false},
		// The slopes are equal.
		{[]int{0, 0, 2, 1, 0, 0, 2, 1}, false}, {[]int{0, 0, 2, 1, 0, 0, 4, 2}, false}, {[]int{0, 0, 1, 0, 5, 7, 9, 7}, false}, {[]int{-3, 2, 0, 0, 9, -6, 15, -10}, false},
		// X are equal.
		{[]int{0, 0, 0, 5, 0, 0, 1, 1}, false}, {[]int{0, 5, 0, 0, 0, 0, 1, 1}, false}, {[]int{0, 0, 1, 1, 0, 0, 0, 5}, false}, {[]int{0, 0, 1, 1, 0, 5, 0, 0}, false}, {[]int{0, 0, 0, 5, 1, 0, 1, 9}, false}, {[]int{0, 0, 0, 0, 0, 0, 0, 0}, false}, {[]int{0, 0, 1, 1, 3, 3, 3, 3}, false}, {[]int{3, 3, 3, 3, 0, 0, 1, 1}, false},
		// Slopes are 0 or less.
		{[]int{0, 0, 1, -1, 0, 0, 1, 0}, true}, {[]int{0, 0, 1, 0, 0, 0, 1, -1}, false}, {[]int{0, 0, 1, -2, 0, 0, 1, -1}, true}, {[]int{0, 0, 1, -1, 0, 0, 1, -2}, false}, {[]int{0, 0, 1, -1, 0, 0, 2, -1}, true}, {[]int{0, 0, 1, -1, 0, 0, 1, 1}, true}, {[]int{0, 0, 1, 1, 0, 0, 1, -1}, false}, {[]int{0, 0, 1, 0, 0, 0, 9, 1}, true},
		// Coordinates are as great as they may be, and slopes differ by as little as they can.
		{[]int{-1000, -1000, 1000, 999, -1000, -1000, 1000, 1000}, true}, {[]int{-1000, -1000, 1000, 1000, -1000, -1000, 1000, 999}, false}, {[]int{-1000, -1000, 1000, 1000, -1000, -1000, 999, 1000}, true}, {[]int{-1000, 1000, -999, -1000, -1000, -1000, -999, 1000}, true}, {[]int{-1000, -1000, 999, 998, -1000, -1000, 1000, 999}, true}, {[]int{-1000, -1000, 1000, 999, -1000, -1000, 999, 998}, false},
		{[]int{0, 0, 1000, 1, 0, 0, 999, 1}, true}, {[]int{0, 0, 1000, 1, 0, 0, 1001, 2}, false}, {[]int{-1001, 0, 0, 0, 0, 0, 1, 1}, false}, {[]int{0, -1000, 1, -1000, 0, -1000, 1, 1001}, false}, {[]int{0, 0, 1, -1001, 0, 0, 1, 1}, false},
	}
	for _, c := range cases {
		p := pts(c.coordinates...)
		if got := impl.SlopeBefore(p[0], p[1], p[2], p[3]); got != c.want {
			t.Errorf("SlopeBefore(%v) = %t", p, got)
		}
		checkSlopes(t, p[0], p[1], p[2], p[3])
	}
}

func TestSlopesOfEachFourPoints(t *testing.T) {
	eachGridFour(func(list []impl.Point) { checkSlopes(t, list[0], list[1], list[2], list[3]) })
	source := rand.New(rand.NewPCG(13, 4))
	for number := range 20000 {
		side := 1001 - number%7*160
		list := make([]impl.Point, 4)
		for i := range list {
			list[i] = impl.Point{X: source.IntN(2*side-1) - side + 1, Y: source.IntN(2*side-1) - side + 1}
		}
		checkSlopes(t, list[0], list[1], list[2], list[3])
	}
}

// TestSlopesBeyondTheLimit takes each coordinate to each limit and just beyond it, and as far as products wrap around.
func TestSlopesBeyondTheLimit(t *testing.T) {
	for _, coordinates := range [][]int{{0, 0, 2, 1, 0, 0, 1, 1}, {-5, 4, 7, -9, -6, 2, 3, 8}, {1000, 0, 1000, 0, -1000, 0, -1000, 0}, {-1000, -1000, 1000, -1000, -1000, -1000, 1000, 1000}} {
		for at := range coordinates {
			for _, far := range []int{1000, -1000, 999, -999, 1001, -1001, 1002, 10000, 1 << 31, -1 << 31, 1 << 32, 1<<32 + 1, -1 << 32, 1 << 62, -1 << 62, math.MaxInt, math.MaxInt - 1, math.MinInt, math.MinInt + 1} {
				changed := slices.Clone(coordinates)
				changed[at] = far
				p := pts(changed...)
				checkSlopes(t, p[0], p[1], p[2], p[3])
				for other := range at {
					changed[other] = -far
					p := pts(changed...)
					checkSlopes(t, p[0], p[1], p[2], p[3])
					changed[other] = coordinates[other]
				}
			}
		}
	}
}

// TestSlopesAreInOneOrder holds for two pairs of points whose X ascend: one slope is before the other one, or they are equal.
func TestSlopesAreInOneOrder(t *testing.T) {
	for _, unsorted := range wiredPoints() {
		list := sortedPoints(unsorted)
		for _, v := range pairsOf(len(list)) {
			for _, w := range pairsOf(len(list)) {
				a, b, c, d := list[v[0]], list[v[1]], list[w[0]], list[w[1]]
				one, other := impl.SlopeBefore(a, b, c, d), impl.SlopeBefore(c, d, a, b)
				want := 0
				if a.X < b.X && c.X < d.X {
					want = slopeOf(a, b).Cmp(slopeOf(c, d))
				}
				if one != (want < 0) || other != (want > 0) {
					t.Fatalf("%v %v and %v %v: SlopeBefore %t, %t", a, b, c, d, one, other)
				}
			}
		}
	}
}

func TestSignsAndWiringsLeaveTheirArguments(t *testing.T) {
	for _, c := range slices.Concat(someWirings(), badWirings()) {
		whole := append(slices.Clone(c.w), 0, 1, -3, 9)
		want := slices.Clone(whole)
		impl.SignsOfWiring(c.n, whole[:len(c.w)])
		if !slices.Equal(whole, want) {
			t.Errorf("%v was changed to %v", want, whole)
		}
	}
	for _, list := range slices.Concat(wiredPoints(), badPoints()) {
		whole := append(slices.Clone(list), pts(9, 9, -8, 8, 0, 7)...)
		want := slices.Clone(whole)
		impl.WiringOfPoints(whole[:len(list)])
		if !slices.Equal(whole, want) {
			t.Errorf("%.12v was changed to %.12v", want, whole)
		}
	}
}

func TestWiringsOfSignsAreNewEachTime(t *testing.T) {
	want := [][]int{{1, 2, 1, 0, 1, 2}, {1, 2, 1, 0, 1, 2}, {0, 1, 0}, {0, 1, 0, 2, 1, 0}}
	for range 2 {
		ofSigns, _ := impl.WiringOfSigns(sgn(4, "---+"))
		ofPoints, _ := impl.WiringOfPoints(pts(0, 0, 4, 1, 1, 3, 2, 2))
		three, _ := impl.WiringOfSigns(sgn(3, "+"))
		four, _ := impl.WiringOfSigns(sgn(4, "++++"))
		lists := [][]int{ofSigns, ofPoints, three, four}
		if !slices.EqualFunc(lists, want, slices.Equal) {
			t.Errorf("%v, want %v", lists, want)
		}
		checkApart(t, lists, want)
	}
}
