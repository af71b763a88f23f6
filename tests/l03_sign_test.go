package tests

import (
	"math"
	"regexp"
	"slices"
	"strconv"
	"strings"
	"testing"

	"loop.example/g03104/impl"
)

// sgn builds signs without any function of the program.
func sgn(n int, text string) impl.Signs { return impl.Signs{N: n, Text: text} }

// threeCounts are the numbers of three elements of 0, 1, 2, ... elements.
var threeCounts = []int{0, 0, 0, 1, 4, 10, 20, 35, 56, 84}

func wantAreSigns(s impl.Signs) bool {
	return s.N >= 3 && s.N <= 7 && len(s.Text) == threeCounts[s.N] && strings.Trim(s.Text, "+-") == ""
}

// placeOf tells the place of three ascending elements in the text, counted from the threes that begin with lesser elements.
func placeOf(n int, i int, j int, k int) int {
	place := 0
	for first := range i {
		rest := n - 1 - first
		place += rest * (rest - 1) / 2
	}
	for second := i + 1; second < j; second++ {
		place += n - 1 - second
	}
	return place + k - j - 1
}

// wantSignAt tells the sign by the parity of the exchanges that sort the three elements.
func wantSignAt(s impl.Signs, i int, j int, k int) int {
	if !wantAreSigns(s) || i == j || j == k || i == k || min(i, j, k) < 0 || max(i, j, k) >= s.N {
		return 0
	}
	sign := 1
	for _, pair := range [][2]int{{i, j}, {i, k}, {j, k}} {
		if pair[0] > pair[1] {
			sign = -sign
		}
	}
	least, greatest := min(i, j, k), max(i, j, k)
	if s.Text[placeOf(s.N, least, i+j+k-least-greatest, greatest)] == '-' {
		sign = -sign
	}
	return sign
}

// signText turns the lowest bits of a number into a text.
func signText(length int, bits uint64) string {
	text := make([]byte, length)
	for i := range text {
		text[i] = "+-"[bits>>i&1]
	}
	return string(text)
}

// goodSigns are signs for which AreSigns is true: all of 3 and 4 elements, and many of 5 to 7.
func goodSigns() []impl.Signs {
	var list []impl.Signs
	for n := 3; n <= 4; n++ {
		for bits := range 1 << threeCounts[n] {
			list = append(list, sgn(n, signText(threeCounts[n], uint64(bits))))
		}
	}
	for n := 5; n <= 7; n++ {
		length := threeCounts[n]
		list = append(list, sgn(n, strings.Repeat("+", length)), sgn(n, strings.Repeat("-", length)))
		for i := range length {
			text := []byte(strings.Repeat("+", length))
			text[i] = '-'
			list = append(list, sgn(n, string(text)))
		}
		bits := uint64(n)
		for range 30 {
			bits = bits*6364136223846793005 + 1442695040888963407
			list = append(list, sgn(n, signText(length, bits>>20)))
		}
	}
	return list
}

// badSigns are signs for which AreSigns is false.
func badSigns() []impl.Signs {
	list := []impl.Signs{
		{}, sgn(0, "+"), sgn(1, ""), sgn(2, ""), sgn(2, "+"), sgn(-1, ""), sgn(-3, "+"), sgn(-7, "+"), sgn(8, strings.Repeat("+", 56)), sgn(9, strings.Repeat("-", 84)),
		sgn(3, ""), sgn(3, "++"), sgn(4, ""), sgn(4, "+"), sgn(4, "+++"), sgn(4, "+++++"), sgn(5, "++++"), sgn(7, strings.Repeat("+", 36)),
		sgn(3, strings.Repeat("+", 100000)), sgn(8, ""), sgn(8, "+"), sgn(100000, "+"),
		sgn(3, "\u2212"), sgn(4, "+\u2212"), sgn(4, "\u2212-"), sgn(3, "\xff"),
	}
	for n := -8; n <= 20; n++ {
		for length := range 90 {
			if s := sgn(n, strings.Repeat("-", length)); !wantAreSigns(s) {
				list = append(list, s)
			}
		}
	}
	// The product of three factors of some of these wraps around to 0.
	for _, n := range []int{1 << 16, 1 << 21, 1 << 32, 1<<32 + 1, 1<<32 + 3, 1<<32 + 4, 1 << 62, 1<<62 + 3, math.MaxInt, math.MinInt, math.MinInt + 1, math.MinInt + 3} {
		for _, length := range []int{0, 1, 4, 35} {
			list = append(list, sgn(n, strings.Repeat("+", length)))
		}
	}
	for n := 3; n <= 7; n++ {
		good := signText(threeCounts[n], 0x5a5a5a5a5a)
		for i := range good {
			for _, b := range []byte("0*,.:1 \x00\xff/") {
				list = append(list, sgn(n, good[:i]+string([]byte{b})+good[i+1:]))
			}
		}
	}
	return list
}

// clip shortens signs for a message.
func clip(s impl.Signs) impl.Signs { return sgn(s.N, s.Text[:min(len(s.Text), 40)]) }

// eachOrder visits each order of the numbers below n.
func eachOrder(n int, visit func(order []int)) {
	var extend func(order []int)
	extend = func(order []int) {
		if len(order) == n {
			visit(slices.Clone(order))
			return
		}
		for e := range n {
			if !slices.Contains(order, e) {
				extend(append(order[:len(order):len(order)], e))
			}
		}
	}
	extend(nil)
}

func TestAreSigns(t *testing.T) {
	for _, s := range goodSigns() {
		if !impl.AreSigns(s) {
			t.Errorf("AreSigns(%v) = false", s)
		}
	}
	for _, s := range badSigns() {
		if impl.AreSigns(s) {
			t.Errorf("AreSigns(%v) = true", clip(s))
		}
	}
}

func TestAreSignsTakesNoOtherByte(t *testing.T) {
	for b := range 256 {
		for i := range 4 {
			text := []byte("+--+")
			text[i] = byte(b)
			if got, want := impl.AreSigns(sgn(4, string(text))), b == '+' || b == '-'; got != want {
				t.Errorf("AreSigns(4, %q) = %t", text, got)
			}
		}
	}
}

func TestSignAt(t *testing.T) {
	four := sgn(4, "++-+")
	five := sgn(5, "+--++-++--")
	cases := []struct {
		s       impl.Signs
		i, j, k int
		want    int
	}{
		{sgn(3, "+"), 0, 1, 2, 1}, {sgn(3, "+"), 1, 0, 2, -1}, {sgn(3, "+"), 1, 2, 0, 1}, {sgn(3, "+"), 0, 2, 1, -1}, {sgn(3, "+"), 2, 0, 1, 1}, {sgn(3, "+"), 2, 1, 0, -1},
		{sgn(3, "-"), 0, 1, 2, -1}, {sgn(3, "-"), 1, 0, 2, 1}, {sgn(3, "-"), 1, 2, 0, -1}, {sgn(3, "-"), 0, 2, 1, 1}, {sgn(3, "-"), 2, 0, 1, -1}, {sgn(3, "-"), 2, 1, 0, 1},
		{four, 0, 1, 2, 1}, {four, 0, 1, 3, 1}, {four, 0, 2, 3, -1}, {four, 1, 2, 3, 1},
		{four, 1, 0, 2, -1}, {four, 2, 3, 0, -1}, {four, 3, 2, 0, 1}, {four, 3, 2, 1, -1},
		{four, 0, 0, 1, 0}, {four, 0, 1, 0, 0}, {four, 1, 0, 0, 0}, {four, 2, 2, 2, 0}, {four, 0, 1, 4, 0}, {four, 4, 0, 1, 0}, {four, -1, 0, 1, 0},
		{five, 0, 1, 2, 1}, {five, 0, 1, 3, -1}, {five, 0, 1, 4, -1}, {five, 0, 2, 3, 1}, {five, 0, 2, 4, 1}, {five, 0, 3, 4, -1},
		{five, 1, 2, 3, 1}, {five, 1, 2, 4, 1}, {five, 1, 3, 4, -1}, {five, 2, 3, 4, -1},
		{sgn(3, "+"), 0, 1, 3, 0}, {impl.Signs{}, 0, 1, 2, 0}, {sgn(4, "+++"), 0, 1, 2, 0}, {sgn(4, "+++0"), 0, 1, 2, 0}, {sgn(8, strings.Repeat("+", 56)), 0, 1, 2, 0},
	}
	for _, c := range cases {
		if got := impl.SignAt(c.s, c.i, c.j, c.k); got != c.want {
			t.Errorf("SignAt(%v, %d, %d, %d) = %d, want %d", c.s, c.i, c.j, c.k, got, c.want)
		}
	}
}

// checkSignsAt compares SignAt of all three numbers from -1 to N.
func checkSignsAt(t *testing.T, s impl.Signs, want func(i int, j int, k int) int) {
	t.Helper()
	for i := -1; i <= s.N; i++ {
		for j := -1; j <= s.N; j++ {
			for k := -1; k <= s.N; k++ {
				if got := impl.SignAt(s, i, j, k); got != want(i, j, k) {
					t.Errorf("SignAt(%v, %d, %d, %d) = %d, want %d", s, i, j, k, got, want(i, j, k))
				}
			}
		}
	}
}

func TestSignAtEachThree(t *testing.T) {
	for _, s := range goodSigns() {
		checkSignsAt(t, s, func(i int, j int, k int) int { return wantSignAt(s, i, j, k) })
	}
}

func TestSignAtOfNoElement(t *testing.T) {
	s := sgn(7, strings.Repeat("+", 35))
	for _, far := range []int{-1, -2, 7, 8, 255, 256, 1 << 32, 1<<32 + 1, math.MaxInt, math.MinInt} {
		for _, at := range [][3]int{{far, 0, 1}, {0, far, 1}, {0, 1, far}, {1, 0, far}, {far, far, 1}, {1, far, far}, {far, far, far}, {0, far, far + 1}} {
			if got := impl.SignAt(s, at[0], at[1], at[2]); got != 0 {
				t.Errorf("SignAt(%v, %v) = %d", s, at, got)
			}
		}
	}
}

func TestSignAtOfNoSigns(t *testing.T) {
	for _, s := range badSigns() {
		for _, at := range [][3]int{{0, 1, 2}, {2, 1, 0}, {0, 0, 0}, {1, 2, 3}} {
			if got := impl.SignAt(s, at[0], at[1], at[2]); got != 0 {
				t.Errorf("SignAt(%v, %v) = %d", clip(s), at, got)
			}
		}
	}
}

func TestSignsOf(t *testing.T) {
	cases := []struct {
		list []impl.Point
		want impl.Signs
	}{
		{pts(0, 0, 1, 0, 0, 1), sgn(3, "+")},
		{pts(0, 0, 0, 1, 1, 0), sgn(3, "-")},
		{pts(0, 0, 4, 1, 1, 3, 2, 2), sgn(4, "++-+")},
		{pts(0, 0, 1, 0, 1, 1, 0, 1), sgn(4, "++++")},
		{pts(0, 0, 6, 0, 3, 6, 3, 2), sgn(4, "++-+")},
		{parabola(7), sgn(7, strings.Repeat("+", 35))},
	}
	for _, c := range cases {
		if got, ok := impl.SignsOf(c.list); !ok || got != c.want {
			t.Errorf("SignsOf(%v) = %v, %t, want %v", c.list, got, ok, c.want)
		}
	}
	for _, list := range badPoints() {
		if got, ok := impl.SignsOf(list); ok || got != (impl.Signs{}) {
			t.Errorf("SignsOf(%v) = %v, %t", list[:min(len(list), 9)], got, ok)
		}
	}
}

func TestSignsOfAreTheTurns(t *testing.T) {
	for _, list := range goodPoints() {
		for from := 0; from+3 <= len(list); from++ {
			part := list[from:]
			s, ok := impl.SignsOf(part)
			if !ok || s.N != len(part) || !wantAreSigns(s) {
				t.Errorf("SignsOf(%v) = %v, %t", part, s, ok)
				continue
			}
			checkSignsAt(t, s, func(i int, j int, k int) int {
				if min(i, j, k) < 0 || max(i, j, k) >= len(part) {
					return 0
				}
				return bigArea(part[i], part[j], part[k]).Sign()
			})
		}
	}
}

func TestOppositeSigns(t *testing.T) {
	exchange := strings.NewReplacer("+", "-", "-", "+")
	for _, s := range append(goodSigns(), sgn(3, "+"), sgn(4, "++-+")) {
		got, ok := impl.OppositeSigns(s)
		if want := sgn(s.N, exchange.Replace(s.Text)); !ok || got != want {
			t.Errorf("OppositeSigns(%v) = %v, %t, want %v", s, got, ok, want)
		}
	}
	for _, s := range badSigns() {
		if got, ok := impl.OppositeSigns(s); ok || got != (impl.Signs{}) {
			t.Errorf("OppositeSigns(%v) = %v, %t", clip(s), got, ok)
		}
	}
}

func TestOppositeSignsOfMirroredPoints(t *testing.T) {
	for _, list := range goodPoints() {
		mirrored := slices.Clone(list)
		for i := range mirrored {
			mirrored[i].X = -mirrored[i].X
		}
		s, _ := impl.SignsOf(list)
		want, _ := impl.SignsOf(mirrored)
		if got, ok := impl.OppositeSigns(s); !ok || got != want {
			t.Errorf("OppositeSigns of %v = %v, %t, want %v", list, got, ok, want)
		}
	}
}

func TestRenameSigns(t *testing.T) {
	cases := []struct {
		s     impl.Signs
		names []int
		want  impl.Signs
	}{
		{sgn(3, "+"), []int{0, 1, 2}, sgn(3, "+")},
		{sgn(3, "+"), []int{1, 0, 2}, sgn(3, "-")},
		{sgn(3, "-"), []int{2, 0, 1}, sgn(3, "-")},
		{sgn(3, "-"), []int{2, 1, 0}, sgn(3, "+")},
		{sgn(4, "++-+"), []int{0, 1, 2, 3}, sgn(4, "++-+")},
		{sgn(4, "++-+"), []int{1, 0, 2, 3}, sgn(4, "--+-")},
		// The threes 012, 013, 023, 123 become 123, 120, 130, 230; the names taken the other way round would give "+++-".
		{sgn(4, "++-+"), []int{1, 2, 3, 0}, sgn(4, "+-++")},
		{sgn(4, "++-+"), []int{3, 0, 1, 2}, sgn(4, "+++-")},
	}
	for _, c := range cases {
		if got, ok := impl.RenameSigns(c.s, c.names); !ok || got != c.want {
			t.Errorf("RenameSigns(%v, %v) = %v, %t, want %v", c.s, c.names, got, ok, c.want)
		}
	}
}

// checkRenamed compares the sign of each three elements with that of their names.
func checkRenamed(t *testing.T, s impl.Signs, names []int) {
	t.Helper()
	got, ok := impl.RenameSigns(s, names)
	if !ok || got.N != s.N || !wantAreSigns(got) {
		t.Errorf("RenameSigns(%v, %v) = %v, %t", s, names, got, ok)
		return
	}
	for i := range s.N {
		for j := range i {
			for k := range j {
				if wantSignAt(got, names[i], names[j], names[k]) != wantSignAt(s, i, j, k) {
					t.Errorf("RenameSigns(%v, %v) = %v: wrong sign of the names of %d, %d, %d", s, names, got, i, j, k)
				}
			}
		}
	}
}

func TestRenameSignsEachOrder(t *testing.T) {
	byNumber := map[int][]impl.Signs{}
	for _, s := range goodSigns() {
		byNumber[s.N] = append(byNumber[s.N], s)
	}
	for n := 3; n <= 7; n++ {
		at := 0
		eachOrder(n, func(names []int) {
			for range 8 {
				at++
				checkRenamed(t, byNumber[n][at%len(byNumber[n])], names)
			}
		})
	}
}

func TestRenameSignsOfRenamedPoints(t *testing.T) {
	for _, list := range goodPoints() {
		if len(list) > 5 {
			continue
		}
		s, _ := impl.SignsOf(list)
		eachOrder(len(list), func(names []int) {
			renamed := make([]impl.Point, len(list))
			for i, name := range names {
				renamed[name] = list[i]
			}
			want, _ := impl.SignsOf(renamed)
			if got, ok := impl.RenameSigns(s, names); !ok || got != want {
				t.Errorf("RenameSigns of %v by %v = %v, %t, want %v", list, names, got, ok, want)
			}
		})
	}
}

func TestRenameSignsRejects(t *testing.T) {
	four := sgn(4, "++-+")
	lists := [][]int{
		nil, {}, {0}, {0, 1, 2}, {0, 1, 3}, {1, 2, 3}, {0, 1, 2, 3, 4}, {0, 1, 2, 3, 0}, {0, 1, 2, 3, -1},
		{0, 0, 2, 3}, {0, 1, 1, 3}, {0, 1, 2, 2}, {3, 1, 2, 3}, {0, 0, 0, 0}, {0, 0, 1, 1}, {1, 2, 3, 4}, {0, 1, 2, 4}, {4, 1, 2, 3}, {-1, 1, 2, 3}, {0, 1, 2, -1},
		{0, 1, 2, math.MaxInt}, {math.MinInt, 1, 2, 3}, {1 << 32, 1, 2, 3}, {0, 1<<32 + 1, 2, 3}, {0, 1, 2, 3 + 256}, make([]int, 100000),
	}
	for n := range 6 * 6 * 6 * 6 {
		names := []int{n%6 - 1, n/6%6 - 1, n/36%6 - 1, n/216 - 1}
		if !slices.Equal(slices.Sorted(slices.Values(names)), []int{0, 1, 2, 3}) {
			lists = append(lists, names)
		}
	}
	for _, names := range lists {
		if got, ok := impl.RenameSigns(four, names); ok || got != (impl.Signs{}) {
			t.Errorf("RenameSigns(%v, %v) = %v, %t", four, names[:min(len(names), 9)], got, ok)
		}
	}
	for n := 3; n <= 7; n++ {
		s := sgn(n, signText(threeCounts[n], 0x9a53c61f27))
		for e := range n {
			names := []int{0, 1, 2, 3, 4, 5, 6}[:n]
			names[e] = (e + 1) % n
			if got, ok := impl.RenameSigns(s, names); ok || got != (impl.Signs{}) {
				t.Errorf("RenameSigns(%v, %v) = %v, %t", s, names, got, ok)
			}
		}
	}
}

func TestRenameSignsOfNoSigns(t *testing.T) {
	for _, s := range badSigns() {
		for n := range 10 {
			if got, ok := impl.RenameSigns(s, []int{0, 1, 2, 3, 4, 5, 6, 7, 8}[:min(n, 9)]); ok || got != (impl.Signs{}) {
				t.Errorf("RenameSigns(%v, %d names) = %v, %t", clip(s), n, got, ok)
			}
		}
	}
}

func TestWithoutElement(t *testing.T) {
	four := sgn(4, "++-+")
	five := sgn(5, "+--++-++--")
	cases := []struct {
		s    impl.Signs
		i    int
		want impl.Signs
	}{
		{four, 0, sgn(3, "+")}, {four, 1, sgn(3, "-")}, {four, 2, sgn(3, "+")}, {four, 3, sgn(3, "+")},
		{sgn(4, "+---"), 3, sgn(3, "+")}, {sgn(4, "-+--"), 2, sgn(3, "+")}, {sgn(4, "--+-"), 1, sgn(3, "+")}, {sgn(4, "---+"), 0, sgn(3, "+")},
		{five, 0, sgn(4, "++--")}, {five, 1, sgn(4, "++--")}, {five, 2, sgn(4, "----")}, {five, 3, sgn(4, "+-++")}, {five, 4, sgn(4, "+-++")},
		{sgn(5, "+++++-----"), 0, sgn(4, "----")}, {sgn(5, "+++++-----"), 4, sgn(4, "+++-")},
	}
	for _, c := range cases {
		if got, ok := impl.WithoutElement(c.s, c.i); !ok || got != c.want {
			t.Errorf("WithoutElement(%v, %d) = %v, %t, want %v", c.s, c.i, got, ok, c.want)
		}
	}
}

// wantWithout leaves out each sign of three elements with i among them.
func wantWithout(s impl.Signs, i int) impl.Signs {
	want := impl.Signs{N: s.N - 1}
	at := 0
	for a := range s.N {
		for b := a + 1; b < s.N; b++ {
			for c := b + 1; c < s.N; c++ {
				if a != i && b != i && c != i {
					want.Text += s.Text[at : at+1]
				}
				at++
			}
		}
	}
	return want
}

func TestWithoutElementEach(t *testing.T) {
	for _, s := range goodSigns() {
		for i := -2; i <= s.N+2; i++ {
			var want impl.Signs
			wantOK := s.N > 3 && i >= 0 && i < s.N
			if wantOK {
				want = wantWithout(s, i)
			}
			if got, ok := impl.WithoutElement(s, i); ok != wantOK || got != want {
				t.Errorf("WithoutElement(%v, %d) = %v, %t, want %v, %t", s, i, got, ok, want, wantOK)
			}
		}
		for _, i := range []int{math.MinInt, math.MaxInt, 1 << 32, 1<<32 + 1, 256} {
			if got, ok := impl.WithoutElement(s, i); ok || got != (impl.Signs{}) {
				t.Errorf("WithoutElement(%v, %d) = %v, %t", s, i, got, ok)
			}
		}
	}
}

func TestWithoutElementOfNoSigns(t *testing.T) {
	for _, s := range badSigns() {
		for i := -1; i <= 8; i++ {
			if got, ok := impl.WithoutElement(s, i); ok || got != (impl.Signs{}) {
				t.Errorf("WithoutElement(%v, %d) = %v, %t", clip(s), i, got, ok)
			}
		}
	}
}

func TestWithoutElementOfFewerPoints(t *testing.T) {
	for _, list := range goodPoints() {
		if len(list) == 3 {
			continue
		}
		s, _ := impl.SignsOf(list)
		for i := range list {
			want, _ := impl.SignsOf(slices.Delete(slices.Clone(list), i, i+1))
			if got, ok := impl.WithoutElement(s, i); !ok || got != want {
				t.Errorf("WithoutElement of %v, %d = %v, %t, want %v", list, i, got, ok, want)
			}
		}
	}
}

func TestSignsText(t *testing.T) {
	if got := impl.SignsText(sgn(4, "++-+")); got != "4:++-+" {
		t.Errorf("SignsText = %q", got)
	}
	if got := impl.SignsText(sgn(3, "-")); got != "3:-" {
		t.Errorf("SignsText = %q", got)
	}
	for _, s := range goodSigns() {
		if got, want := impl.SignsText(s), strconv.Itoa(s.N)+":"+s.Text; got != want {
			t.Errorf("SignsText(%v) = %q, want %q", s, got, want)
		}
	}
	for _, s := range badSigns() {
		if got := impl.SignsText(s); got != "" {
			t.Errorf("SignsText(%v) = %q, want no text", clip(s), got)
		}
	}
}

func TestParseSignsAccepts(t *testing.T) {
	for _, want := range goodSigns() {
		text := strconv.Itoa(want.N) + ":" + want.Text
		if got, ok := impl.ParseSigns(text); !ok || got != want {
			t.Errorf("ParseSigns(%q) = %v, %t", text, got, ok)
		}
	}
}

func TestParseSignsRejects(t *testing.T) {
	texts := []string{
		"", ":", "3", "+", "3:", "3+", ":+", "+:3", "3:0", "3:*", "3::+", ":3:+", "3:+:", "3:+:+", "3 :+", "3: +", " 3:+", "3:+ ", "3:+\n", "3:+\x00", "3;+", "3,+",
		"03:+", "003:+", "+3:+", "-3:+", "-3:-", "3.0:+", "0x3:+", "3_:+", "\u0663:+", "3\uff1a+", "3:\u2212", "\xff:+", "3:\xff",
		"2:", "2:+", "1:", "0:", "-1:", "-1:+", "3:++", "4:+++", "4:+++++", "4:", "5:++++", "8:+", "8:", "8:" + strings.Repeat("+", 56), "9:" + strings.Repeat("-", 84),
		"7:" + strings.Repeat("+", 34), "7:" + strings.Repeat("+", 36), "3:" + strings.Repeat("+", 100000), "999999:+", "1000000:+",
		"4294967299:+", "18446744073709551619:+", strings.Repeat("3", 100000) + ":+", strings.Repeat(":", 100000), strings.Repeat("3:+", 100000), strings.Repeat("0", 100000) + "3:+",
	}
	for _, s := range badSigns() {
		texts = append(texts, strconv.Itoa(s.N)+":"+s.Text)
	}
	for _, text := range texts {
		if got, ok := impl.ParseSigns(text); ok || got != (impl.Signs{}) {
			t.Errorf("ParseSigns(%.60q) = %v, %t", text, clip(got), ok)
		}
	}
}

var signsForm = regexp.MustCompile(`\A(?:3:[+-]|4:[+-]{4}|5:[+-]{10}|6:[+-]{20}|7:[+-]{35})\z`)

func checkParseSigns(t *testing.T, text string) {
	t.Helper()
	var want impl.Signs
	wantOK := signsForm.MatchString(text)
	if wantOK {
		want = sgn(int(text[0]-'0'), text[2:])
	}
	got, ok := impl.ParseSigns(text)
	if ok != wantOK || got != want {
		t.Errorf("ParseSigns(%q) = %v, %t, want %v, %t", text, got, ok, want, wantOK)
	}
	if ok && impl.SignsText(got) != text {
		t.Errorf("SignsText(ParseSigns(%q)) = %q", text, impl.SignsText(got))
	}
}

func TestParseSignsOfTextsWithOneChange(t *testing.T) {
	for n := 3; n <= 7; n++ {
		text := strconv.Itoa(n) + ":" + signText(threeCounts[n], 0x9a53c61f27)
		for i := range len(text) + 1 {
			for _, b := range []byte(everyByte()) {
				checkParseSigns(t, text[:i]+string([]byte{b})+text[i:])
				if i < len(text) {
					checkParseSigns(t, text[:i]+string([]byte{b})+text[i+1:])
				}
			}
			checkParseSigns(t, text[:i])
			if i < len(text) {
				checkParseSigns(t, text[:i]+text[i+1:])
				checkParseSigns(t, text[i:])
			}
		}
	}
}

func TestParseSignsOfEachShortText(t *testing.T) {
	const bytes = "+-:0348 "
	for length := range 7 {
		total := 1
		for range length {
			total *= len(bytes)
		}
		for n := range total {
			text := make([]byte, length)
			for i := range text {
				text[i] = bytes[n%len(bytes)]
				n /= len(bytes)
			}
			checkParseSigns(t, string(text))
		}
	}
}

func TestSignFunctionsLeaveTheirArguments(t *testing.T) {
	for _, list := range goodPoints() {
		whole := append(slices.Clone(list), pts(7, 7, 8, 8)...)
		want := slices.Clone(whole)
		impl.SignsOf(whole[:len(list)])
		if !slices.Equal(whole, want) {
			t.Errorf("%v was changed to %v", want, whole)
		}
	}
	for _, s := range goodSigns() {
		names := []int{6, 5, 4, 3, 2, 1, 0, 9, 8, 7}
		want := slices.Clone(names)
		impl.RenameSigns(s, names[7-s.N:7])
		impl.RenameSigns(s, names[:s.N])
		if !slices.Equal(names, want) {
			t.Errorf("%v was changed to %v", want, names)
		}
	}
}
