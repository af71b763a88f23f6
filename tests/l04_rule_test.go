package tests

import (
	"math"
	"slices"
	"strings"
	"testing"

	"loop.example/g03104/impl"
)

// wantFirstBreak goes through the lists in the order of the document.
func wantFirstBreak(s impl.Signs) []int {
	if !wantAreSigns(s) {
		return nil
	}
	for a := range s.N {
		for b := range s.N {
			for c := b + 1; c < s.N; c++ {
				for d := c + 1; d < s.N; d++ {
					for e := d + 1; e < s.N; e++ {
						if a != b && a != c && a != d && a != e && wantBreak(s, a, b, c, d, e) {
							return []int{a, b, c, d, e}
						}
					}
				}
			}
		}
	}
	return nil
}

func wantBreak(s impl.Signs, a int, b int, c int, d int, e int) bool {
	product := func(i int, j int, k int, l int) int { return wantSignAt(s, a, i, j) * wantSignAt(s, a, k, l) }
	sum := product(b, c, d, e) + product(b, e, c, d) - product(b, d, c, e)
	return sum == 3 || sum == -3
}

func wantIsMatroid(s impl.Signs) bool { return wantAreSigns(s) && wantFirstBreak(s) == nil }

// wantReversed exchanges the byte of each three with an odd number of elements among those given.
func wantReversed(s impl.Signs, elements ...int) impl.Signs {
	text := []byte(s.Text)
	for i := range s.N {
		for j := i + 1; j < s.N; j++ {
			for k := j + 1; k < s.N; k++ {
				for _, e := range elements {
					if at := placeOf(s.N, i, j, k); e == i || e == j || e == k {
						text[at] = '+' + '-' - text[at]
					}
				}
			}
		}
	}
	return sgn(s.N, string(text))
}

// wantCircuit leaves out one of the four at a time: the sign of the other three, in their order, is that of the one left out, or the opposite at every second one.
func wantCircuit(s impl.Signs, four ...int) string {
	var first int
	var text []byte
	for at := range four {
		others := slices.Delete(slices.Clone(four), at, at+1)
		sign := wantSignAt(s, others[0], others[1], others[2])
		if sign == 0 {
			return ""
		}
		if at%2 == 1 {
			sign = -sign
		}
		if at == 0 {
			first = sign
		}
		text = append(text, "-?+"[sign*first+1])
	}
	return string(text)
}

// eachFour visits each list of four different elements, in each order.
func eachFour(n int, visit func(a int, b int, c int, d int)) {
	for number := range n * n * n * n {
		a, b, c, d := number%n, number/n%n, number/n/n%n, number/n/n/n
		if a != b && a != c && a != d && b != c && b != d && c != d {
			visit(a, b, c, d)
		}
	}
}

func wantIsAcyclic(s impl.Signs) bool {
	acyclic := wantIsMatroid(s)
	if acyclic {
		eachFour(s.N, func(a int, b int, c int, d int) {
			acyclic = acyclic && wantCircuit(s, a, b, c, d) != "++++"
		})
	}
	return acyclic
}

func elementsOf(n int, set int) []int {
	var list []int
	for e := range n {
		if set/(1<<e)%2 == 1 {
			list = append(list, e)
		}
	}
	return list
}

// allSigns returns all signs of n elements, for n up to 5.
func allSigns(n int) []impl.Signs {
	var list []impl.Signs
	for bits := range 1 << threeCounts[n] {
		list = append(list, sgn(n, signText(threeCounts[n], uint64(bits))))
	}
	return list
}

// signsOfPoints reads the signs off the points without the program.
func signsOfPoints(list []impl.Point) impl.Signs {
	var text []byte
	for i := range list {
		for j := i + 1; j < len(list); j++ {
			for k := j + 1; k < len(list); k++ {
				text = append(text, "-?+"[bigArea(list[i], list[j], list[k]).Sign()+1])
			}
		}
	}
	return sgn(len(list), string(text))
}

// morePoints adds, to goodPoints, lists of 5 to 7 points with some inside the hull.
func morePoints() [][]impl.Point {
	return append(goodPoints(),
		pts(0, 0, 5, 0, 6, 4, 2, 7, -2, 3),
		pts(0, 0, 10, 0, 5, 9, 4, 3, 6, 4),
		pts(0, 0, 10, 0, 10, 9, 0, 8, 4, 3),
		pts(0, 0, 10, 0, 5, 9, 4, 3, 6, 3, 5, 5),
		pts(-6, 0, 6, 1, 0, 6, 1, -6, 2, 2),
		pts(-50, -50, 50, -49, 0, 50, -9, -20, 12, -19, 1, 7, 2, -3),
		pts(-50, -50, 50, -50, 49, 50, -50, 49, 3, 7, -11, 5),
	)
}

// ruleSigns are signs that keep the rule, with 3 to 7 elements: those of points, and some with reversed elements.
func ruleSigns() []impl.Signs {
	var list []impl.Signs
	for _, points := range morePoints() {
		s := signsOfPoints(points)
		list = append(list, s, wantReversed(s, 0), wantReversed(s, s.N-1, 1), wantReversed(s, elementsOf(s.N, 1<<s.N-1)...))
	}
	return list
}

// nearSigns are signs that come of ruleSigns by one or two exchanged signs; most of them break the rule somewhere.
func nearSigns() []impl.Signs {
	var list []impl.Signs
	for at, s := range ruleSigns() {
		for i := range s.Text {
			text := []byte(s.Text)
			text[i] = '+' + '-' - text[i]
			list = append(list, sgn(s.N, string(text)))
			other := (i*7 + at) % len(text)
			text[other] = '+' + '-' - text[other]
			list = append(list, sgn(s.N, string(text)))
		}
	}
	return list
}

// sampleSigns are signs of 3 to 7 elements, of points and others.
func sampleSigns() []impl.Signs { return slices.Concat(goodSigns(), ruleSigns(), nearSigns()) }

func TestFirstBreak(t *testing.T) {
	cases := []struct {
		s    impl.Signs
		want []int
	}{
		{sgn(3, "+"), nil}, {sgn(3, "-"), nil}, {sgn(4, "++-+"), nil}, {sgn(4, "+--+"), nil},
		{sgn(5, "++++++++++"), nil},
		{sgn(5, "----------"), nil},
		{sgn(5, "-+++++++++"), nil},
		{sgn(5, "+++++-++++"), nil},
		{sgn(5, "+-++++++++"), []int{0, 1, 2, 3, 4}},
		{sgn(5, "++++-+++++"), []int{0, 1, 2, 3, 4}},
		{sgn(5, "----+-----"), []int{0, 1, 2, 3, 4}},
		{sgn(5, "+++++++-++"), []int{1, 0, 2, 3, 4}},
		{sgn(5, "+-+-++++++"), []int{1, 0, 2, 3, 4}},
		{sgn(5, "+++-++++++"), []int{2, 0, 1, 3, 4}},
		{sgn(5, "++++++++-+"), []int{3, 0, 1, 2, 4}},
		// The sign of 0, 1, 4; 0, 2, 5; 0, 3, 5; 1, 4, 5; and 2, 4, 5 is another one.
		{sgn(6, "++-+++++++++++++++++"), []int{0, 1, 2, 4, 5}},
		{sgn(6, "++++++-+++++++++++++"), []int{0, 1, 2, 3, 5}},
		{sgn(6, "++++++++-+++++++++++"), []int{0, 1, 3, 4, 5}},
		{sgn(6, "+++++++++++++++-++++"), []int{4, 0, 1, 2, 5}},
		{sgn(6, "++++++++++++++++++-+"), []int{4, 0, 2, 3, 5}},
		{sgn(7, strings.Repeat("+", 35)), nil},
		{sgn(7, strings.Repeat("-", 35)), nil},
		// The sign of 2, 5, 6; 0, 1, 5; and 3, 5, 6 is another one.
		{sgn(7, strings.Repeat("+", 30)+"-++++"), []int{5, 0, 2, 3, 6}},
		{sgn(7, "+++-"+strings.Repeat("+", 31)), []int{0, 1, 2, 5, 6}},
		{sgn(7, strings.Repeat("-", 33)+"+-"), []int{5, 0, 3, 4, 6}},
		{impl.Signs{}, nil}, {sgn(5, "++++-++++"), nil}, {sgn(5, "++++-++++++"), nil}, {sgn(5, "++++-++++0"), nil}, {sgn(8, strings.Repeat("++++-++", 8)), nil},
	}
	for _, c := range cases {
		if got := impl.FirstBreak(c.s); !slices.Equal(got, c.want) {
			t.Errorf("FirstBreak(%v) = %v, want %v", c.s, got, c.want)
		}
		if got, want := impl.IsMatroid(c.s), c.want == nil && wantAreSigns(c.s); got != want {
			t.Errorf("IsMatroid(%v) = %t, want %t", c.s, got, want)
		}
	}
}

// checkBreak compares FirstBreak and IsMatroid with the rule itself.
func checkBreak(t *testing.T, s impl.Signs) {
	t.Helper()
	want := wantFirstBreak(s)
	if got := impl.FirstBreak(s); !slices.Equal(got, want) {
		t.Errorf("FirstBreak(%v) = %v, want %v", s, got, want)
	}
	if got := impl.IsMatroid(s); got != (want == nil) {
		t.Errorf("IsMatroid(%v) = %t, FirstBreak is %v", s, got, want)
	}
}

func TestFirstBreakEach(t *testing.T) {
	for _, s := range slices.Concat(allSigns(5), sampleSigns()) {
		checkBreak(t, s)
	}
}

func TestFewerThanFiveElementsKeepTheRule(t *testing.T) {
	for _, s := range slices.Concat(allSigns(3), allSigns(4)) {
		if got := impl.FirstBreak(s); len(got) != 0 || !impl.IsMatroid(s) {
			t.Errorf("FirstBreak(%v) = %v, IsMatroid %t", s, got, impl.IsMatroid(s))
		}
	}
}

func TestRuleOfNoSigns(t *testing.T) {
	for _, s := range badSigns() {
		if got := impl.FirstBreak(s); len(got) != 0 {
			t.Errorf("FirstBreak(%v) = %v", clip(s), got)
		}
		if impl.IsMatroid(s) || impl.IsAcyclic(s) {
			t.Errorf("IsMatroid(%v) = %t, IsAcyclic = %t", clip(s), impl.IsMatroid(s), impl.IsAcyclic(s))
		}
		if got := impl.AcyclicSets(s); len(got) != 0 {
			t.Errorf("AcyclicSets(%v) = %v", clip(s), got)
		}
	}
}

func TestFirstBreakIsNewEachTime(t *testing.T) {
	s := sgn(6, "++-+++++++++++++++++")
	first := impl.FirstBreak(s)
	for i := range first {
		first[i] = -9
	}
	if got, want := impl.FirstBreak(s), []int{0, 1, 2, 4, 5}; !slices.Equal(got, want) {
		t.Errorf("FirstBreak(%v) = %v, want %v", s, got, want)
	}
}

func TestSignsOfPointsKeepTheRule(t *testing.T) {
	for _, list := range morePoints() {
		s, ok := impl.SignsOf(list)
		if !ok || len(impl.FirstBreak(s)) != 0 || !impl.IsMatroid(s) || !impl.IsAcyclic(s) {
			t.Errorf("signs of %v: %v, %t, FirstBreak %v, IsMatroid %t, IsAcyclic %t", list, s, ok, impl.FirstBreak(s), impl.IsMatroid(s), impl.IsAcyclic(s))
		}
	}
	bits, count := uint64(4), 0
	for n := range 400 {
		var list []impl.Point
		for range 3 + n%5 {
			bits = bits*6364136223846793005 + 1442695040888963407
			list = append(list, impl.Point{X: int(bits>>20%101) - 50, Y: int(bits>>40%101) - 50})
		}
		s, ok := impl.SignsOf(list)
		if ok {
			count++
		}
		if ok && (!impl.IsMatroid(s) || !impl.IsAcyclic(s)) {
			t.Errorf("signs %v of %v: IsMatroid %t, IsAcyclic %t", s, list, impl.IsMatroid(s), impl.IsAcyclic(s))
		}
	}
	if count < 300 {
		t.Errorf("only %d lists are points", count)
	}
}

// TestSignsOfFiveElements compares with the 12 * 32 signs that come of a pentagon by names and reversals: there is no other arrangement of five lines that may bend.
func TestSignsOfFiveElements(t *testing.T) {
	keeping := map[impl.Signs]bool{}
	eachOrder(5, func(names []int) {
		var text []byte
		for i := range 5 {
			for j := i + 1; j < 5; j++ {
				for k := j + 1; k < 5; k++ {
					text = append(text, "-?+"[wantSignAt(sgn(5, "++++++++++"), names[i], names[j], names[k])+1])
				}
			}
		}
		for set := range 32 {
			keeping[wantReversed(sgn(5, string(text)), elementsOf(5, set)...)] = true
		}
	})
	if len(keeping) != 384 {
		t.Fatalf("%d signs of five elements", len(keeping))
	}
	for _, s := range allSigns(5) {
		if got := impl.IsMatroid(s); got != keeping[s] {
			t.Errorf("IsMatroid(%v) = %t", s, got)
		}
	}
}

// signsOfAnyPoints are the signs of the lists of points in each order.
func signsOfAnyPoints(lists ...[]impl.Point) map[impl.Signs]bool {
	found := map[impl.Signs]bool{}
	for _, list := range lists {
		eachOrder(len(list), func(order []int) {
			var points []impl.Point
			for _, i := range order {
				points = append(points, list[i])
			}
			found[signsOfPoints(points)] = true
		})
	}
	return found
}

// TestAcyclicSignsAreThoseOfPoints holds for 3 to 5 elements, of which the lists show each kind.
func TestAcyclicSignsAreThoseOfPoints(t *testing.T) {
	cases := []struct {
		n, count int
		found    map[impl.Signs]bool
	}{
		{3, 2, signsOfAnyPoints(pts(0, 0, 1, 0, 0, 1))},
		{4, 14, signsOfAnyPoints(pts(0, 0, 1, 0, 1, 1, 0, 1), pts(0, 0, 6, 0, 3, 6, 3, 2))},
		{5, 264, signsOfAnyPoints(parabola(5), pts(0, 0, 10, 0, 10, 9, 0, 8, 4, 3), pts(0, 0, 10, 0, 5, 9, 4, 3, 6, 4))},
	}
	for _, c := range cases {
		if len(c.found) != c.count {
			t.Fatalf("%d signs of %d points", len(c.found), c.n)
		}
		for _, s := range allSigns(c.n) {
			if got := impl.IsAcyclic(s); got != c.found[s] {
				t.Errorf("IsAcyclic(%v) = %t", s, got)
			}
		}
	}
}

func TestReverseElement(t *testing.T) {
	cases := []struct {
		s    impl.Signs
		i    int
		want impl.Signs
	}{
		{sgn(3, "+"), 0, sgn(3, "-")}, {sgn(3, "-"), 2, sgn(3, "+")},
		{sgn(4, "++-+"), 0, sgn(4, "--++")}, {sgn(4, "++-+"), 1, sgn(4, "----")}, {sgn(4, "++-+"), 2, sgn(4, "-++-")}, {sgn(4, "++-+"), 3, sgn(4, "+-+-")},
		{sgn(5, "++++++++++"), 0, sgn(5, "------++++")}, {sgn(5, "++++++++++"), 2, sgn(5, "-++--+--+-")}, {sgn(5, "++++++++++"), 4, sgn(5, "++-+--+---")},
	}
	for _, c := range cases {
		if got, ok := impl.ReverseElement(c.s, c.i); !ok || got != c.want {
			t.Errorf("ReverseElement(%v, %d) = %v, %t, want %v", c.s, c.i, got, ok, c.want)
		}
	}
}

func TestReverseElementEach(t *testing.T) {
	for _, s := range sampleSigns() {
		for i := range s.N {
			got, ok := impl.ReverseElement(s, i)
			if want := wantReversed(s, i); !ok || got != want {
				t.Errorf("ReverseElement(%v, %d) = %v, %t, want %v", s, i, got, ok, want)
			}
			if again, ok := impl.ReverseElement(got, i); !ok || again != s {
				t.Errorf("ReverseElement(%v, %d) twice = %v, %t", s, i, again, ok)
			}
		}
	}
}

func TestReverseElementRejects(t *testing.T) {
	for _, s := range slices.Concat(goodSigns(), badSigns()) {
		for _, i := range []int{-1, -2, s.N, 7, 8, 63, 64, 255, 256, 1 << 32, 1<<32 + 1, math.MaxInt, math.MinInt, math.MinInt + 1} {
			if got, ok := impl.ReverseElement(s, i); ok || got != (impl.Signs{}) {
				t.Errorf("ReverseElement(%v, %d) = %v, %t", clip(s), i, got, ok)
			}
		}
	}
	for _, s := range badSigns() {
		for i := range 4 {
			if got, ok := impl.ReverseElement(s, i); ok || got != (impl.Signs{}) {
				t.Errorf("ReverseElement(%v, %d) = %v, %t", clip(s), i, got, ok)
			}
		}
	}
}

func TestReverseElementKeepsTheRule(t *testing.T) {
	for _, s := range slices.Concat(allSigns(5), sampleSigns()) {
		for i := range s.N {
			if got, _ := impl.ReverseElement(s, i); impl.IsMatroid(got) != impl.IsMatroid(s) {
				t.Errorf("ReverseElement(%v, %d) = %v: IsMatroid is no longer %t", s, i, got, impl.IsMatroid(s))
			}
		}
	}
}

func TestCircuitOf(t *testing.T) {
	inside := sgn(4, "++-+")
	cyclic := sgn(4, "+-+-")
	cases := []struct {
		s          impl.Signs
		a, b, c, d int
		want       string
	}{
		{inside, 0, 1, 2, 3, "+++-"}, {inside, 0, 1, 3, 2, "++-+"}, {inside, 0, 3, 1, 2, "+-++"}, {inside, 3, 0, 1, 2, "+---"}, {inside, 3, 2, 1, 0, "+---"}, {inside, 2, 3, 0, 1, "+-++"},
		{cyclic, 0, 1, 2, 3, "++++"}, {cyclic, 3, 1, 0, 2, "++++"},
		{sgn(4, "++++"), 0, 1, 2, 3, "+-+-"}, {sgn(4, "++++"), 0, 2, 1, 3, "++--"}, {sgn(4, "++++"), 1, 0, 2, 3, "+--+"},
		{sgn(4, "----"), 0, 1, 2, 3, "+-+-"}, {sgn(4, "-+--"), 0, 1, 2, 3, "+---"}, {sgn(4, "+--+"), 0, 1, 2, 3, "++--"},
		{sgn(5, "++-+--+---"), 0, 1, 2, 3, "+-+-"}, {sgn(5, "++-+--+---"), 0, 1, 2, 4, "+-++"}, {sgn(5, "++-+--+---"), 4, 1, 2, 3, "++-+"},
		{inside, 0, 1, 2, 2, ""}, {inside, 0, 0, 1, 2, ""}, {inside, 0, 1, 0, 2, ""}, {inside, 0, 1, 2, 0, ""}, {inside, 1, 0, 0, 2, ""}, {inside, 1, 0, 2, 0, ""}, {inside, 3, 3, 3, 3, ""},
		{inside, 0, 1, 2, 4, ""}, {inside, 4, 1, 2, 3, ""}, {inside, 0, -1, 2, 3, ""}, {inside, 0, 1, -1, 3, ""},
		{sgn(3, "+"), 0, 1, 2, 3, ""}, {sgn(3, "+"), 0, 1, 2, 2, ""}, {impl.Signs{}, 0, 1, 2, 3, ""}, {sgn(4, "++-"), 0, 1, 2, 3, ""}, {sgn(4, "++-0"), 0, 1, 2, 3, ""}, {sgn(8, strings.Repeat("+", 56)), 0, 1, 2, 3, ""},
	}
	for _, c := range cases {
		if got := impl.CircuitOf(c.s, c.a, c.b, c.c, c.d); got != c.want {
			t.Errorf("CircuitOf(%v, %d, %d, %d, %d) = %q, want %q", c.s, c.a, c.b, c.c, c.d, got, c.want)
		}
	}
}

func checkCircuit(t *testing.T, s impl.Signs, a int, b int, c int, d int) {
	t.Helper()
	if got, want := impl.CircuitOf(s, a, b, c, d), wantCircuit(s, a, b, c, d); got != want {
		t.Errorf("CircuitOf(%v, %d, %d, %d, %d) = %q, want %q", clip(s), a, b, c, d, got, want)
	}
}

func TestCircuitOfEachFour(t *testing.T) {
	for _, s := range slices.Concat(allSigns(3), allSigns(4), ruleSigns()) {
		for number := range 9 * 9 * 9 * 9 {
			a, b, c, d := number%9-1, number/9%9-1, number/81%9-1, number/729-1
			if max(a, b, c, d) <= s.N {
				checkCircuit(t, s, a, b, c, d)
			}
		}
	}
	for _, s := range goodSigns() {
		for number := range 300 {
			checkCircuit(t, s, number%s.N, number/2%s.N, number/3%s.N, number/7%s.N)
		}
	}
}

func TestCircuitOfNoElements(t *testing.T) {
	s := sgn(7, strings.Repeat("+", 35))
	for _, far := range []int{-1, 7, 8, 64, 256, 1 << 32, 1<<32 + 3, math.MaxInt, math.MinInt} {
		for at := range 4 {
			four := []int{0, 1, 2, 3}
			four[at] = far
			for range 4 {
				if got := impl.CircuitOf(s, four[0], four[1], four[2], four[3]); got != "" {
					t.Errorf("CircuitOf(%v, %v) = %q", s, four, got)
				}
				four = append(four[1:], four[0])
			}
		}
		if got := impl.CircuitOf(s, far, far, far, far); got != "" {
			t.Errorf("CircuitOf(%v) of %d only = %q", s, far, got)
		}
	}
	for _, s := range badSigns() {
		for _, four := range [][4]int{{0, 1, 2, 3}, {3, 2, 1, 0}, {0, 1, 2, 2}, {0, 0, 0, 0}} {
			if got := impl.CircuitOf(s, four[0], four[1], four[2], four[3]); got != "" {
				t.Errorf("CircuitOf(%v, %v) = %q", clip(s), four, got)
			}
		}
	}
}

// haveCommonPoint tells by areas whether the hulls of four points, divided into two and two or one and three, have a common point.
func haveCommonPoint(some []impl.Point, others []impl.Point) bool {
	turn := func(a impl.Point, b impl.Point, c impl.Point) int { return bigArea(a, b, c).Sign() }
	if len(some) > len(others) {
		some, others = others, some
	}
	switch len(some) {
	case 1:
		p, a, b, c := some[0], others[0], others[1], others[2]
		return turn(a, b, p) == turn(b, c, p) && turn(b, c, p) == turn(c, a, p)
	case 2:
		a, b, c, d := some[0], some[1], others[0], others[1]
		return turn(a, b, c) != turn(a, b, d) && turn(c, d, a) != turn(c, d, b)
	}
	return false
}

func TestCircuitsDividePoints(t *testing.T) {
	check := func(list []impl.Point, a int, b int, c int, d int) {
		text := impl.CircuitOf(signsOfPoints(list), a, b, c, d)
		if len(text) != 4 || text[0] != '+' {
			t.Errorf("CircuitOf of %v at %d, %d, %d, %d is %q", list, a, b, c, d, text)
			return
		}
		parts := map[byte][]impl.Point{}
		for at, e := range []int{a, b, c, d} {
			parts[text[at]] = append(parts[text[at]], list[e])
		}
		if !haveCommonPoint(parts['+'], parts['-']) {
			t.Errorf("CircuitOf of %v at %d, %d, %d, %d is %q: no common point", list, a, b, c, d, text)
		}
	}
	for _, list := range morePoints() {
		eachFour(len(list), func(a int, b int, c int, d int) { check(list, a, b, c, d) })
	}
	eachGridFour(func(list []impl.Point) {
		if wantArePoints(list) {
			check(list, 0, 1, 2, 3)
		}
	})
}

func TestIsAcyclic(t *testing.T) {
	cases := []struct {
		s    impl.Signs
		want bool
	}{
		{sgn(3, "+"), true}, {sgn(3, "-"), true},
		{sgn(4, "++-+"), true}, {sgn(4, "++++"), true}, {sgn(4, "+-+-"), false}, {sgn(4, "-+-+"), false},
		{sgn(5, "++++++++++"), true}, {sgn(5, "----------"), true}, {sgn(5, "------++++"), true},
		{sgn(5, "++++-+++++"), false}, {sgn(5, "-++--+--+-"), true}, {sgn(5, "+--++---+-"), false},
		{sgn(7, strings.Repeat("+", 35)), true}, {sgn(7, strings.Repeat("-", 35)), true},
		{impl.Signs{}, false}, {sgn(2, ""), false}, {sgn(3, ""), false}, {sgn(4, "+++"), false}, {sgn(4, "+++0"), false}, {sgn(8, strings.Repeat("+", 56)), false},
	}
	for _, c := range cases {
		if got := impl.IsAcyclic(c.s); got != c.want {
			t.Errorf("IsAcyclic(%v) = %t, want %t", c.s, got, c.want)
		}
	}
}

func TestIsAcyclicEach(t *testing.T) {
	for _, s := range slices.Concat(allSigns(5), sampleSigns()) {
		if got, want := impl.IsAcyclic(s), wantIsAcyclic(s); got != want {
			t.Errorf("IsAcyclic(%v) = %t, want %t", s, got, want)
		}
	}
}

func TestAcyclicSets(t *testing.T) {
	cases := []struct {
		s    impl.Signs
		want []int
	}{
		{sgn(3, "+"), []int{0, 1, 2, 3, 4, 5, 6, 7}},
		{sgn(3, "-"), []int{0, 1, 2, 3, 4, 5, 6, 7}},
		{sgn(4, "++-+"), []int{0, 1, 2, 3, 4, 5, 6, 9, 10, 11, 12, 13, 14, 15}},
		{sgn(4, "++++"), []int{0, 1, 2, 3, 4, 6, 7, 8, 9, 11, 12, 13, 14, 15}},
		{sgn(4, "+-+-"), []int{1, 2, 3, 4, 5, 6, 7, 8, 9, 10, 11, 12, 13, 14}},
		{sgn(5, "++++++++++"), []int{0, 1, 2, 3, 4, 6, 7, 8, 12, 14, 15, 16, 17, 19, 23, 24, 25, 27, 28, 29, 30, 31}},
		{sgn(7, strings.Repeat("+", 35)), []int{0, 1, 2, 3, 4, 6, 7, 8, 12, 14, 15, 16, 24, 28, 30, 31, 32, 48, 56, 60, 62, 63, 64, 65, 67, 71, 79, 95, 96, 97, 99, 103, 111, 112, 113, 115, 119, 120, 121, 123, 124, 125, 126, 127}},
		{sgn(5, "++++-+++++"), nil}, {sgn(5, "+++++++++"), nil}, {impl.Signs{}, nil}, {sgn(8, strings.Repeat("+", 56)), nil},
	}
	for _, c := range cases {
		if got := impl.AcyclicSets(c.s); !slices.Equal(got, c.want) {
			t.Errorf("AcyclicSets(%v) = %v, want %v", c.s, got, c.want)
		}
	}
}

func TestAcyclicSetsEach(t *testing.T) {
	for _, s := range slices.Concat(allSigns(3), allSigns(4), ruleSigns()) {
		var want []int
		for set := range 1 << s.N {
			if wantIsAcyclic(wantReversed(s, elementsOf(s.N, set)...)) {
				want = append(want, set)
			}
		}
		if got := impl.AcyclicSets(s); !slices.Equal(got, want) || len(got) != s.N*(s.N-1)+2 {
			t.Errorf("AcyclicSets(%v) = %v, want %v", s, got, want)
		}
	}
}

func TestAcyclicSetsOfBrokenSigns(t *testing.T) {
	for _, s := range slices.Concat(allSigns(5), sampleSigns()) {
		sets := impl.AcyclicSets(s)
		if wantIsMatroid(s) {
			if len(sets) != s.N*(s.N-1)+2 {
				t.Errorf("AcyclicSets(%v) = %v", s, sets)
			}
		} else if len(sets) != 0 {
			t.Errorf("AcyclicSets(%v) = %v of signs that break the rule", s, sets)
		}
	}
}

// TestAcyclicSetsAreThoseOfReverseElement compares the functions of the chapter with each other.
func TestAcyclicSetsAreThoseOfReverseElement(t *testing.T) {
	for _, s := range ruleSigns() {
		sets := impl.AcyclicSets(s)
		for set := range 1 << s.N {
			reversed := s
			for _, e := range elementsOf(s.N, set) {
				reversed, _ = impl.ReverseElement(reversed, e)
			}
			if got := slices.Contains(sets, set); got != impl.IsAcyclic(reversed) || got != slices.Contains(sets, 1<<s.N-1-set) {
				t.Errorf("AcyclicSets(%v) = %v: wrong at %d", s, sets, set)
			}
		}
	}
}

func TestAcyclicSetsAreNewEachTime(t *testing.T) {
	s := sgn(4, "++-+")
	first := impl.AcyclicSets(s)
	for i := range first {
		first[i] = -9
	}
	if got, want := impl.AcyclicSets(s), []int{0, 1, 2, 3, 4, 5, 6, 9, 10, 11, 12, 13, 14, 15}; !slices.Equal(got, want) {
		t.Errorf("AcyclicSets(%v) = %v, want %v", s, got, want)
	}
}
