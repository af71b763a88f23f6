package tests

import (
	"math"
	"math/big"
	"regexp"
	"slices"
	"strconv"
	"strings"
	"testing"

	"loop.example/g03104/impl"
)

const (
	pointLimit = 50
	turnLimit  = 1000
	shearLimit = 100
)

// pts builds points from their coordinates X, Y, X, Y, ...
func pts(coordinates ...int) []impl.Point {
	var list []impl.Point
	for i := 0; i+1 < len(coordinates); i += 2 {
		list = append(list, impl.Point{X: coordinates[i], Y: coordinates[i+1]})
	}
	return list
}

// parabola returns n points of which no three are on a line.
func parabola(n int) []impl.Point {
	var list []impl.Point
	for i := range n {
		x := i - n/2
		list = append(list, impl.Point{X: x, Y: x * x})
	}
	return list
}

// bigArea tells twice the area without any limit of size.
func bigArea(a impl.Point, b impl.Point, c impl.Point) *big.Int {
	minus := func(p int, q int) *big.Int { return new(big.Int).Sub(big.NewInt(int64(p)), big.NewInt(int64(q))) }
	left := new(big.Int).Mul(minus(b.X, a.X), minus(c.Y, a.Y))
	right := new(big.Int).Mul(minus(b.Y, a.Y), minus(c.X, a.X))
	return left.Sub(left, right)
}

func allWithin(list []impl.Point, limit int) bool {
	for _, p := range list {
		if p.X < -limit || p.X > limit || p.Y < -limit || p.Y > limit {
			return false
		}
	}
	return true
}

func wantArePoints(list []impl.Point) bool {
	if len(list) < 3 || len(list) > 7 || !allWithin(list, pointLimit) {
		return false
	}
	for i := range list {
		for j := i + 1; j < len(list); j++ {
			for k := j + 1; k < len(list); k++ {
				if bigArea(list[i], list[j], list[k]).Sign() == 0 {
					return false
				}
			}
		}
	}
	return true
}

func wantPointsText(list []impl.Point) string {
	var b strings.Builder
	for i, p := range list {
		if i > 0 {
			b.WriteByte(' ')
		}
		b.WriteString(strconv.Itoa(p.X) + "," + strconv.Itoa(p.Y))
	}
	return b.String()
}

// goodPoints are lists for which ArePoints is true.
func goodPoints() [][]impl.Point {
	list := [][]impl.Point{
		pts(0, 0, 4, 1, 1, 3, 2, 2),
		pts(0, 0, 1, 0, 0, 1),
		pts(0, 1, 1, 0, 0, 0),
		pts(50, 50, -50, 50, -50, -50, 50, -50),
		pts(50, 0, 0, 50, -50, 0, 0, -50),
		pts(3, 1, 3, -1, -3, 0),
		pts(0, 0, 50, 1, -50, 0),
		pts(50, -50, -50, 50, 50, -49),
		pts(-7, 49, 7, 49, 0, 0, 1, 1, -1, 1, 2, 4, -2, 4),
		pts(0, 50, 10, -40, -10, -40, 3, 5, -4, 6, 1, 9, 45, -7),
	}
	for n := 3; n <= 7; n++ {
		list = append(list, parabola(n))
	}
	return list
}

// badPoints are lists for which ArePoints is false.
func badPoints() [][]impl.Point {
	list := [][]impl.Point{
		nil, {},
		pts(0, 0), pts(0, 0, 1, 2), pts(0, 0, 0, 0),
		pts(0, 0, 0, 0, 0, 0), pts(0, 0, 0, 0, 1, 2), pts(0, 0, 1, 2, 0, 0), pts(1, 2, 0, 0, 0, 0),
		pts(0, 0, 1, 1, 2, 2), pts(0, 0, 2, 2, 1, 1), pts(0, 0, 1, 0, 50, 0), pts(7, -50, 7, 0, 7, 50),
		pts(0, 0, 1, 3, -2, -6), pts(-50, -50, 50, 50, 0, 0), pts(-50, 50, 49, -49, 0, 0),
		pts(0, 0, 1, 5, 1, 0, 2, 0), pts(1, 5, 0, 0, 1, 0, 2, 0), pts(0, 0, 1, 0, 2, 0, 1, 5), pts(0, 0, 1, 0, 1, 5, 2, 0),
		pts(0, 0, 4, 1, 1, 3, 2, 2, 4, 1), pts(0, 0, 0, 0, 4, 1, 1, 3, 2, 2),
		parabola(8), parabola(9), parabola(100), make([]impl.Point, 100000),
	}
	for _, far := range []int{51, -51, 52, 1000, 1001, 1 << 32, 1<<32 + 1, math.MaxInt, math.MinInt} {
		for at := range 6 {
			coordinates := []int{0, 0, 7, 3, 2, 9}
			coordinates[at] = far
			list = append(list, pts(coordinates...))
		}
	}
	for at := range 7 {
		seven := parabola(7)
		seven[at].Y = 51
		list = append(list, seven)
		seven = parabola(7)
		seven[at] = seven[(at+1)%7]
		list = append(list, seven)
	}
	return list
}

// eachGridFour visits each list of four points of a small grid, with and without three on a line.
func eachGridFour(visit func(list []impl.Point)) {
	var at [4]int
	for n := range 9 * 9 * 9 * 9 {
		for i := range at {
			at[i] = n % 9
			n /= 9
		}
		list := make([]impl.Point, 4)
		for i, a := range at {
			list[i] = impl.Point{X: a/3*2 - 1, Y: a%3 - 1}
		}
		visit(list)
	}
}

func TestMaxPoints(t *testing.T) {
	if impl.MaxPoints != 7 {
		t.Errorf("MaxPoints = %d", impl.MaxPoints)
	}
}

func TestTurnOfAndAreaOf(t *testing.T) {
	cases := []struct {
		coordinates []int
		area        int
	}{
		{[]int{0, 0, 4, 1, 1, 3}, 11},
		{[]int{4, 1, 0, 0, 1, 3}, -11},
		{[]int{0, 0, 1, 0, 0, 1}, 1},
		{[]int{0, 0, 0, 1, 1, 0}, -1},
		{[]int{0, 0, 1, 0, 5, 1}, 1},
		{[]int{0, 0, 1, 0, -5, 1}, 1},
		{[]int{0, 0, 1, 0, 5, -1}, -1},
		{[]int{0, 0, 1, 1, 2, 2}, 0},
		{[]int{0, 0, 2, 2, 1, 1}, 0},
		{[]int{3, 5, 3, 9, 3, -1000}, 0},
		{[]int{0, 0, 4, 1, 4, 1}, 0},
		{[]int{4, 1, 4, 1, 0, 0}, 0},
		{[]int{4, 1, 0, 0, 4, 1}, 0},
		{[]int{4, 1, 4, 1, 4, 1}, 0},
		{[]int{-1000, -1000, 1000, -1000, 1000, 1000}, 4000000},
		{[]int{-1000, -1000, 1000, 1000, 1000, -1000}, -4000000},
		{[]int{-1000, -1000, 1000, 999, 999, 1000}, 3999},
		{[]int{-1000, 0, 0, 0, 1000, 0}, 0},
		{[]int{-1000, -1, 0, 0, 1000, 1}, 0},
		{[]int{-1000, -1, 0, 0, 1000, 2}, 1000},
	}
	for _, c := range cases {
		p := pts(c.coordinates...)
		if got := impl.AreaOf(p[0], p[1], p[2]); got != c.area {
			t.Errorf("AreaOf(%v) = %d, want %d", p, got, c.area)
		}
		if got, want := impl.TurnOf(p[0], p[1], p[2]), big.NewInt(int64(c.area)).Sign(); got != want {
			t.Errorf("TurnOf(%v) = %d, want %d", p, got, want)
		}
	}
}

// checkTurn compares both functions with integers of any size.
func checkTurn(t *testing.T, a impl.Point, b impl.Point, c impl.Point) {
	t.Helper()
	want := new(big.Int)
	if allWithin([]impl.Point{a, b, c}, turnLimit) {
		want = bigArea(a, b, c)
	}
	if got := impl.AreaOf(a, b, c); int64(got) != want.Int64() {
		t.Errorf("AreaOf(%v, %v, %v) = %d, want %s", a, b, c, got, want)
	}
	if got := impl.TurnOf(a, b, c); got != want.Sign() {
		t.Errorf("TurnOf(%v, %v, %v) = %d, want %d", a, b, c, got, want.Sign())
	}
}

func TestTurnOfEachThreeOfAGrid(t *testing.T) {
	var grid []impl.Point
	for x := -2; x <= 2; x++ {
		for y := -2; y <= 2; y++ {
			grid = append(grid, impl.Point{X: x, Y: y}, impl.Point{X: 500*x + y, Y: 499*y - x})
		}
	}
	for _, a := range grid {
		for _, b := range grid {
			for _, c := range grid {
				checkTurn(t, a, b, c)
			}
		}
	}
}

func TestTurnOfAtItsLimits(t *testing.T) {
	for _, far := range []int{999, 1000, 1001, 1 << 31, 1 << 32, 1 << 62, math.MaxInt} {
		for at := range 6 {
			for _, n := range []int{far, -far, -far - 1} {
				coordinates := []int{0, 0, 4, 1, 1, 3}
				coordinates[at] = n
				p := pts(coordinates...)
				checkTurn(t, p[0], p[1], p[2])
			}
		}
	}
}

func TestTurnOfFollowsExchanges(t *testing.T) {
	for _, list := range goodPoints() {
		a, b, c := list[0], list[1], list[2]
		turn, area := impl.TurnOf(a, b, c), impl.AreaOf(a, b, c)
		for _, even := range [][]impl.Point{{b, c, a}, {c, a, b}} {
			if impl.TurnOf(even[0], even[1], even[2]) != turn || impl.AreaOf(even[0], even[1], even[2]) != area {
				t.Errorf("%v turns in another way than %v", even, list[:3])
			}
		}
		for _, odd := range [][]impl.Point{{b, a, c}, {a, c, b}, {c, b, a}} {
			if impl.TurnOf(odd[0], odd[1], odd[2]) != -turn || impl.AreaOf(odd[0], odd[1], odd[2]) != -area {
				t.Errorf("%v turns in the same way as %v", odd, list[:3])
			}
		}
	}
}

func TestArePoints(t *testing.T) {
	for _, list := range goodPoints() {
		if !impl.ArePoints(list) {
			t.Errorf("ArePoints(%v) = false", list)
		}
	}
	for _, list := range badPoints() {
		if impl.ArePoints(list) {
			t.Errorf("ArePoints(%v) = true", list[:min(len(list), 9)])
		}
	}
	eachGridFour(func(list []impl.Point) {
		if got, want := impl.ArePoints(list), wantArePoints(list); got != want {
			t.Errorf("ArePoints(%v) = %t, want %t", list, got, want)
		}
	})
}

func TestArePointsFindsEachThreeOnALine(t *testing.T) {
	for i := range 7 {
		for j := range 7 {
			for k := range 7 {
				if i == j || j == k || i == k {
					continue
				}
				list := pts(-40, 37, -31, -29, -17, 48, 11, -13, 23, 31, 37, -47, 43, 5)
				list[i], list[j], list[k] = pts(-6, -9)[0], pts(0, 1)[0], pts(6, 11)[0]
				if impl.ArePoints(list) {
					t.Errorf("ArePoints(%v) = true", list)
				}
			}
		}
	}
}

func TestEqualPoints(t *testing.T) {
	four := pts(0, 0, 4, 1, 1, 3, 2, 2)
	equal := [][2][]impl.Point{
		{nil, nil}, {nil, {}}, {{}, nil}, {{}, {}},
		{four, four}, {four, slices.Clone(four)}, {four[:2], slices.Clone(four[:2])},
		{pts(math.MinInt, math.MaxInt), pts(math.MinInt, math.MaxInt)},
		{pts(1, 1, 1, 1, 1, 1), pts(1, 1, 1, 1, 1, 1)},
		{make([]impl.Point, 1000), make([]impl.Point, 1000)},
	}
	for _, pair := range equal {
		if !impl.EqualPoints(pair[0], pair[1]) {
			t.Errorf("EqualPoints(%v, %v) = false", pair[0], pair[1])
		}
	}
	different := [][2][]impl.Point{
		{four, nil}, {four, four[:3]}, {four, four[1:]}, {four[:1], nil},
		{nil, pts(0, 0)}, {{}, pts(0, 0)},
		{pts(1, 2), pts(2, 1)}, {pts(1, 2), pts(1, 3)}, {pts(1, 2), pts(3, 2)}, {pts(1, 2), pts(-1, 2)}, {pts(1, 2), pts(1, -2)},
		{pts(0, 0), pts(math.MinInt, 0)}, {pts(0, 0), pts(0, 1<<32)},
		{pts(1, 2, 3, 4), pts(3, 4, 1, 2)},
	}
	for _, pair := range different {
		if impl.EqualPoints(pair[0], pair[1]) || impl.EqualPoints(pair[1], pair[0]) {
			t.Errorf("EqualPoints(%v, %v) = true", pair[0], pair[1])
		}
	}
	for at := range four {
		for _, change := range pts(1, 0, 0, 1) {
			other := slices.Clone(four)
			other[at].X += change.X
			other[at].Y += change.Y
			if impl.EqualPoints(four, other) {
				t.Errorf("EqualPoints(%v, %v) = true", four, other)
			}
		}
	}
}

func TestPointsText(t *testing.T) {
	cases := []struct {
		list []impl.Point
		want string
	}{
		{pts(0, 0, 4, 1, 1, 3, 2, 2), "0,0 4,1 1,3 2,2"},
		{pts(1, 3, 0, 0, 4, 1), "1,3 0,0 4,1"},
		{pts(50, -50, -50, 50, 50, -49), "50,-50 -50,50 50,-49"},
		{parabola(7), "-3,9 -2,4 -1,1 0,0 1,1 2,4 3,9"},
	}
	for _, c := range cases {
		if got := impl.PointsText(c.list); got != c.want {
			t.Errorf("PointsText(%v) = %q, want %q", c.list, got, c.want)
		}
	}
	for _, list := range goodPoints() {
		if got, want := impl.PointsText(list), wantPointsText(list); got != want {
			t.Errorf("PointsText(%v) = %q, want %q", list, got, want)
		}
	}
	for _, list := range badPoints() {
		if got := impl.PointsText(list); got != "" {
			t.Errorf("PointsText(%v) = %q, want no text", list[:min(len(list), 9)], got)
		}
	}
}

func TestParsePointsAccepts(t *testing.T) {
	for _, want := range goodPoints() {
		got, ok := impl.ParsePoints(wantPointsText(want))
		if !ok || !slices.Equal(got, want) {
			t.Errorf("ParsePoints(%q) = %v, %t", wantPointsText(want), got, ok)
		}
	}
}

func TestParsePointsRejects(t *testing.T) {
	texts := []string{
		"", " ", ",", "0", "0,0", "0,0 1,0", "?", "\x00", "0,0 1,0 0,1 ", " 0,0 1,0 0,1", "0,0  1,0 0,1", "0,0 1,0 0,1\n", "0,0 1,0 0,1\x00",
		"0,0\t1,0\t0,1", "0,0;1,0;0,1", "0,0,1,0,0,1", "0 0 1 0 0 1", "0,0 1,0 0,1,", "0,0 1,0 ,0,1", "0,0 1,0 0,1,2", "0,0 1,0 0,", "0,0 1,0 ,1", "0,0 1,0 ,", "0,0 1,0 1", "0,0 1,0 x,1", "0,0 1,0 1,x",
		"0,0 1,0 0,01", "0,0 1,0 00,1", "0,0 1,0 +0,1", "0,0 1,0 0,+1", "0,0 1,0 -0,1", "-0,0 1,0 0,1", "0,0 1,0 0, 1", "0, 0 1,0 0,1", "0,0 1,0 0,1.0", "(0,0) (1,0) (0,1)",
		"0,0 1,0 0,51", "0,0 1,0 51,1", "0,0 1,0 0,-51", "0,0 1,0 -51,1", "0,0 1,0 0,999999999999", "0,0 1,0 0,1000000000000", "0,0 1,0 0,18446744073709551617",
		"0,0 1,0 0,4294967297", "0,0 1,0 \xff,1", "0,0 1,0 0,\u0661",
		strings.Repeat("0,0 ", 100000), strings.Repeat(" ", 100000), strings.Repeat(",", 100000), strings.Repeat("9", 100000),
		"0,0 1,0 0," + strings.Repeat("1", 100000), wantPointsText(parabola(8)), wantPointsText(parabola(1000)),
	}
	for _, list := range badPoints() {
		texts = append(texts, wantPointsText(list))
	}
	for _, s := range texts {
		if list, ok := impl.ParsePoints(s); ok || len(list) != 0 {
			t.Errorf("ParsePoints(%.60q) = %v, %t", s, list, ok)
		}
	}
}

var pointsForm = regexp.MustCompile(`\A(?:(?:0|-?[1-9][0-9]?),(?:0|-?[1-9][0-9]?)(?: |\z))+\z`)

// wantPoints tells by the form of the text alone which points it stands for.
func wantPoints(text string) ([]impl.Point, bool) {
	if !pointsForm.MatchString(text) || strings.HasSuffix(text, " ") {
		return nil, false
	}
	var coordinates []int
	for _, field := range strings.FieldsFunc(text, func(r rune) bool { return r == ' ' || r == ',' }) {
		n, err := strconv.Atoi(field)
		if err != nil {
			return nil, false
		}
		coordinates = append(coordinates, n)
	}
	list := pts(coordinates...)
	if !wantArePoints(list) {
		return nil, false
	}
	return list, true
}

func checkParsePoints(t *testing.T, text string) {
	t.Helper()
	got, ok := impl.ParsePoints(text)
	if want, wantOK := wantPoints(text); ok != wantOK || !slices.Equal(got, want) {
		t.Errorf("ParsePoints(%q) = %v, %t, want %v, %t", text, got, ok, want, wantOK)
	}
	if ok && impl.PointsText(got) != text {
		t.Errorf("PointsText(ParsePoints(%q)) = %q", text, impl.PointsText(got))
	}
}

func TestParsePointsOfTextsWithOneChange(t *testing.T) {
	for _, list := range goodPoints() {
		text := wantPointsText(list)
		for i := range len(text) + 1 {
			for _, b := range []byte(everyByte()) {
				checkParsePoints(t, text[:i]+string([]byte{b})+text[i:])
				if i < len(text) {
					checkParsePoints(t, text[:i]+string([]byte{b})+text[i+1:])
				}
			}
			checkParsePoints(t, text[:i])
			if i < len(text) {
				checkParsePoints(t, text[:i]+text[i+1:])
				checkParsePoints(t, text[i:])
			}
		}
	}
}

func TestSortPoints(t *testing.T) {
	cases := []struct{ list, want []impl.Point }{
		{pts(4, 1, 0, 0, 1, 3, 2, 2), pts(0, 0, 1, 3, 2, 2, 4, 1)},
		{pts(0, 1, 1, 0, 0, 0), pts(0, 0, 0, 1, 1, 0)},
		{pts(0, -1, 1, 0, 0, -2), pts(0, -2, 0, -1, 1, 0)},
		{pts(50, 50, -50, 50, -50, -50, 50, -50), pts(-50, -50, -50, 50, 50, -50, 50, 50)},
		{pts(-7, 49, 7, 49, 0, 0, 1, 1, -1, 1, 2, 4, -2, 4), pts(-7, 49, -2, 4, -1, 1, 0, 0, 1, 1, 2, 4, 7, 49)},
		{parabola(7), parabola(7)},
	}
	for _, c := range cases {
		if got := impl.SortPoints(c.list); !slices.Equal(got, c.want) {
			t.Errorf("SortPoints(%v) = %v, want %v", c.list, got, c.want)
		}
	}
	for _, list := range badPoints() {
		if got := impl.SortPoints(list); len(got) != 0 {
			t.Errorf("SortPoints(%v) = %v, want none", list[:min(len(list), 9)], got)
		}
	}
}

func TestSortPointsOfEachOrder(t *testing.T) {
	want := pts(-2, -3, -2, 1, 0, 0, 3, -1, 3, 4)
	for n := range 5 * 5 * 5 * 5 * 5 {
		var order []int
		for range 5 {
			order = append(order, n%5)
			n /= 5
		}
		if distinct := slices.Compact(slices.Sorted(slices.Values(order))); len(distinct) < 5 {
			continue
		}
		var list []impl.Point
		for _, at := range order {
			list = append(list, want[at])
		}
		if got := impl.SortPoints(list); !slices.Equal(got, want) {
			t.Errorf("SortPoints(%v) = %v, want %v", list, got, want)
		}
	}
}

func TestShearPoints(t *testing.T) {
	four := pts(0, 0, 4, 1, 1, 3, 2, 2)
	cases := []struct {
		list []impl.Point
		k    int
		want []impl.Point
	}{
		{four, 0, four},
		{four, 1, pts(0, 0, 4, 5, 1, 4, 2, 4)},
		{four, -1, pts(0, 0, 4, -3, 1, 2, 2, 0)},
		{four, 12, pts(0, 0, 4, 49, 1, 15, 2, 26)},
		{four, 13, nil},
		{four, -12, pts(0, 0, 4, -47, 1, -9, 2, -22)},
		{four, -13, nil},
		{four, 20, nil},
		{pts(0, 0, 1, 49, 0, 1), 1, pts(0, 0, 1, 50, 0, 1)},
		{pts(0, 0, 1, 50, 0, 1), 1, nil},
		{pts(0, 0, 1, -49, 0, 1), -1, pts(0, 0, 1, -50, 0, 1)},
		{pts(0, 0, 1, -50, 0, 1), -1, nil},
		{pts(1, 50, 0, 0, 0, 1), 1, nil},
		{pts(-1, 49, 0, 0, 0, 1), -1, pts(-1, 50, 0, 0, 0, 1)},
		{pts(0, 0, 1, -50, 0, 1), 100, pts(0, 0, 1, 50, 0, 1)},
		{pts(0, 0, 1, -50, 0, 1), 101, nil},
		{pts(0, 0, 1, 50, 0, 1), -100, pts(0, 0, 1, -50, 0, 1)},
		{pts(0, 0, 1, 50, 0, 1), -101, nil},
		{pts(0, 0, 50, -50, 0, 1), 2, pts(0, 0, 50, 50, 0, 1)},
		{pts(0, 0, 50, -50, 0, 1), 3, nil},
	}
	for _, c := range cases {
		got, ok := impl.ShearPoints(c.list, c.k)
		if ok != (c.want != nil) || !slices.Equal(got, c.want) {
			t.Errorf("ShearPoints(%v, %d) = %v, %t, want %v", c.list, c.k, got, ok, c.want)
		}
	}
}

func TestShearPointsRejects(t *testing.T) {
	// With these factors a product that wraps around would be 0 or small.
	list := pts(0, 0, 4, 1, 8, 3)
	for _, k := range []int{shearLimit + 1, -shearLimit - 1, 1 << 32, 1 << 61, 1 << 62, 1<<62 + 1, -1 << 62, math.MaxInt, math.MinInt, math.MinInt + 1} {
		if got, ok := impl.ShearPoints(list, k); ok || len(got) != 0 {
			t.Errorf("ShearPoints(%v, %d) = %v, %t", list, k, got, ok)
		}
	}
	for _, bad := range badPoints() {
		for _, k := range []int{0, 1, -1, shearLimit, shearLimit + 1} {
			if got, ok := impl.ShearPoints(bad, k); ok || len(got) != 0 {
				t.Errorf("ShearPoints(%v, %d) = %v, %t", bad[:min(len(bad), 9)], k, got, ok)
			}
		}
	}
}

func TestShearPointsKeepsEachTurn(t *testing.T) {
	for _, list := range goodPoints() {
		for k := -shearLimit - 1; k <= shearLimit+1; k++ {
			want := slices.Clone(list)
			for i := range want {
				want[i].Y += k * want[i].X
			}
			fits := allWithin(want, pointLimit) && k >= -shearLimit && k <= shearLimit
			got, ok := impl.ShearPoints(list, k)
			if ok != fits || fits && !slices.Equal(got, want) || !fits && len(got) != 0 {
				t.Errorf("ShearPoints(%v, %d) = %v, %t, want %v, %t", list, k, got, ok, want, fits)
			}
			if ok {
				checkSameTurns(t, list, got)
			}
		}
	}
}

func checkSameTurns(t *testing.T, list []impl.Point, other []impl.Point) {
	t.Helper()
	for i := range list {
		for j := range list {
			for k := range list {
				if impl.TurnOf(list[i], list[j], list[k]) != impl.TurnOf(other[i], other[j], other[k]) {
					t.Errorf("%v and %v turn differently at %d, %d, %d", list, other, i, j, k)
				}
			}
		}
	}
}

func TestPointFunctionsLeaveTheirArguments(t *testing.T) {
	for _, list := range goodPoints() {
		whole := append(slices.Clone(list), pts(7, 7, 8, 8, 9, 9)...)
		want := slices.Clone(whole)
		part := whole[:len(list)]
		impl.ArePoints(part)
		impl.EqualPoints(part, part)
		impl.PointsText(part)
		impl.SortPoints(part)
		for _, k := range []int{0, 1, -1, 5} {
			impl.ShearPoints(part, k)
		}
		if !slices.Equal(whole, want) {
			t.Errorf("%v was changed to %v", want, whole)
		}
	}
}

func TestPointFunctionsGiveNewMemory(t *testing.T) {
	calls := map[string]func(list []impl.Point) []impl.Point{
		"SortPoints": impl.SortPoints,
		"ShearPoints": func(list []impl.Point) []impl.Point {
			got, _ := impl.ShearPoints(list, 0)
			return got
		},
		"ParsePoints": func(list []impl.Point) []impl.Point {
			got, _ := impl.ParsePoints(wantPointsText(list))
			return got
		},
	}
	for name, call := range calls {
		list := parabola(7)
		first := call(list)
		for i := range first {
			first[i] = impl.Point{X: 99, Y: 99}
		}
		if second := call(parabola(7)); !slices.Equal(list, parabola(7)) || !slices.Equal(second, parabola(7)) {
			t.Errorf("a result of %s shares memory", name)
		}
	}
}
