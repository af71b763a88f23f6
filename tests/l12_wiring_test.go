package tests

import (
	"math"
	"math/rand/v2"
	"regexp"
	"slices"
	"strconv"
	"strings"
	"sync"
	"testing"

	"loop.example/g03104/impl"
)

// wiring has a number of wires and a list that should be one of their wirings.
type wiring struct {
	n int
	w []int
}

// placesOf reads one place from each byte; a byte before or after the digits gives a number that is no place.
func placesOf(text string) []int {
	var w []int
	for _, b := range []byte(text) {
		w = append(w, int(b)-'0')
	}
	return w
}

// wantAfter exchanges wires whichever of them is the lesser one.
func wantAfter(n int, w []int) []int {
	order := make([]int, n)
	for i := range order {
		order[i] = i
	}
	for _, p := range w {
		order[p], order[p+1] = order[p+1], order[p]
	}
	return order
}

// wantIsWiring asks for the reverse order at the end: so few exchanges only reach it if the lesser wire is at p each time.
func wantIsWiring(n int, w []int) bool {
	if n < 3 || n > 6 || len(w) != n*(n-1)/2 || slices.Min(w) < 0 || slices.Max(w) > n-2 {
		return false
	}
	order := wantAfter(n, w)
	slices.Reverse(order)
	return slices.IsSorted(order)
}

// wantSwaps takes each exchange as the pair of wires that is in another order after it.
func wantSwaps(n int, w []int) [][]int {
	var swaps [][]int
	for k, p := range w {
		before := wantAfter(n, w[:k])
		swaps = append(swaps, []int{min(before[p], before[p+1]), max(before[p], before[p+1])})
	}
	return swaps
}

// wantFrom exchanges no wires: of i < j < k, the pair i, k has to come between i, j and j, k, and the place of i is the number of the wires before it.
func wantFrom(n int, swaps [][]int) ([]int, bool) {
	if n < 3 || n > 6 || len(swaps) != n*(n-1)/2 {
		return nil, false
	}
	at := map[[2]int]int{}
	for _, pair := range pairsOf(n) {
		k := slices.IndexFunc(swaps, func(swap []int) bool { return slices.Equal(swap, pair) })
		if k < 0 {
			return nil, false
		}
		at[[2]int(pair)] = k
	}
	for _, three := range ascendingThrees(n) {
		first, second, third := at[[2]int{three[0], three[1]}], at[[2]int{three[0], three[2]}], at[[2]int{three[1], three[2]}]
		if (first < second) != (second < third) {
			return nil, false
		}
	}
	var w []int
	for k, swap := range swaps {
		i, p := swap[0], 0
		for other := range n {
			if other < i && at[[2]int{other, i}] > k || other > i && at[[2]int{i, other}] < k {
				p++
			}
		}
		w = append(w, p)
	}
	return w, true
}

// allWirings has all wirings of 3 to 5 wires in lexicographic order.
var allWirings = sync.OnceValue(func() []wiring {
	var all []wiring
	for n := 3; n <= 5; n++ {
		lists := [][]int{nil}
		for range n * (n - 1) / 2 {
			var longer [][]int
			for _, w := range lists {
				order := wantAfter(n, w)
				for p := range n - 1 {
					if order[p] < order[p+1] {
						longer = append(longer, append(slices.Clone(w), p))
					}
				}
			}
			lists = longer
		}
		for _, w := range lists {
			all = append(all, wiring{n, w})
		}
	}
	return all
})

// someWirings has all wirings of 3 to 5 wires, and some of 6.
var someWirings = sync.OnceValue(func() []wiring {
	all := slices.Clone(allWirings())
	source := rand.New(rand.NewPCG(12, 6))
	for range 200 {
		var w []int
		for len(w) < 15 {
			order := wantAfter(6, w)
			if p := source.IntN(5); order[p] < order[p+1] {
				w = append(w, p)
			}
		}
		all = append(all, wiring{6, w})
	}
	return all
})

// badWirings has lists that are no wirings of so many wires.
func badWirings() []wiring {
	bad := []wiring{
		{3, nil}, {3, []int{}}, {3, placesOf("0")}, {3, placesOf("01")}, {3, placesOf("0101")}, {3, placesOf("1010")}, {3, placesOf("010010")},
		{3, placesOf("000")}, {3, placesOf("001")}, {3, placesOf("011")}, {3, placesOf("100")}, {3, placesOf("110")}, {3, placesOf("111")},
		{3, []int{0, 2, 0}}, {3, []int{1, 2, 1}}, {3, []int{2, 1, 2}}, {3, []int{0, -1, 0}}, {3, []int{-1, 0, -1}}, {3, []int{-1, 0, 1}}, {3, []int{0, 1, 3}}, {3, []int{0, 1, 2}},
		{3, []int{0, 1, math.MaxInt}}, {3, []int{math.MinInt, 1, 0}}, {3, []int{0, math.MaxInt - 1, 0}}, {3, []int{0, 1, 1 << 32}}, {3, []int{1 << 32, 1, 0}}, {3, []int{256, 1, 256}},
		{4, nil}, {4, placesOf("010")}, {4, placesOf("01021")}, {4, placesOf("010211")}, {4, placesOf("010201")}, {4, placesOf("012012")}, {4, placesOf("0102100")}, {4, placesOf("0102102")}, {4, placesOf("121321")},
		// Only the last exchange is wrong here, and then only the first one.
		{4, placesOf("010212")}, {4, placesOf("110210")}, {4, placesOf("010213")}, {4, []int{0, 1, 0, 2, 1, -1}},
		{5, placesOf("0102103211")}, {5, placesOf("010210321")}, {5, placesOf("01021032100")}, {5, placesOf("0102103214")}, {5, placesOf("1213214321")}, {6, placesOf("010210321043215")}, {6, placesOf("01021032104321")}, {6, placesOf("010210321043211")}, {6, placesOf("0102103210432100")},
		// There cannot be so many wires, or they have lists of other lengths.
		{2, placesOf("0")}, {2, nil}, {1, nil}, {0, nil}, {-1, placesOf("0")}, {-2, placesOf("010")}, {-3, placesOf("010210")}, {-4, placesOf("0102103210")}, {-5, placesOf("010210321043210")},
		{7, placesOf("010210321043210543210")}, {8, placesOf("0102103210432105432106543210")}, {7, nil}, {4, placesOf("0102103210")}, {3, placesOf("010210")}, {5, placesOf("010210")}, {5, placesOf("010210321043210")}, {6, placesOf("0102103210")}, {6, placesOf("010210321043210543210")},
	}
	for _, n := range []int{math.MinInt, math.MinInt + 3, math.MaxInt, math.MaxInt - 2, 1 << 31, 1 << 32, 1<<32 + 1, 1<<32 + 3, 1 << 62, 1<<62 + 3, -1 << 32, -3 + 1<<32, 63, 64, 65, 256 + 3} {
		bad = append(bad, wiring{n, nil}, wiring{n, placesOf("0")}, wiring{n, placesOf("010")}, wiring{n, placesOf("010210")})
	}
	return bad
}

// checkNoWiring expects the results of lists that are no wirings.
func checkNoWiring(t *testing.T, n int, w []int) {
	t.Helper()
	turned, turns := impl.TurnWiring(n, w)
	flipped, flips := impl.FlipWiring(n, w)
	if is, swaps, text := impl.IsWiring(n, w), impl.SwapsOf(n, w), impl.WiringText(n, w); is || len(swaps) != 0 || text != "" || len(turned) != 0 || turns || len(flipped) != 0 || flips {
		t.Errorf("%d, %v: IsWiring %t, SwapsOf %v, WiringText %q, TurnWiring %v %t, FlipWiring %v %t", n, w, is, swaps, text, turned, turns, flipped, flips)
	}
	for _, k := range []int{-1, 0, 1, len(w), len(w) + 1} {
		if wires := impl.WiresAfter(n, w, k); len(wires) != 0 {
			t.Errorf("WiresAfter(%d, %v, %d) = %v", n, w, k, wires)
		}
	}
}

func checkWiring(t *testing.T, n int, w []int) {
	t.Helper()
	if !wantIsWiring(n, w) {
		checkNoWiring(t, n, w)
		return
	}
	text := strconv.Itoa(n) + ":"
	for _, p := range w {
		text += strconv.Itoa(p)
	}
	if is, got, swaps := impl.IsWiring(n, w), impl.WiringText(n, w), impl.SwapsOf(n, w); !is || got != text || !slices.EqualFunc(swaps, wantSwaps(n, w), slices.Equal) {
		t.Errorf("%s: IsWiring %t, WiringText %q, SwapsOf %v, want %v", text, is, got, swaps, wantSwaps(n, w))
	}
	for k := range len(w) + 1 {
		if wires := impl.WiresAfter(n, w, k); !slices.Equal(wires, wantAfter(n, w[:k])) {
			t.Errorf("WiresAfter(%d, %v, %d) = %v, want %v", n, w, k, wires, wantAfter(n, w[:k]))
		}
	}
	wantTurned := slices.Concat(w[1:], []int{n - 2 - w[0]})
	var wantFlipped []int
	for _, p := range slices.Backward(w) {
		wantFlipped = append(wantFlipped, n-2-p)
	}
	turned, turns := impl.TurnWiring(n, w)
	flipped, flips := impl.FlipWiring(n, w)
	if !turns || !slices.Equal(turned, wantTurned) || !flips || !slices.Equal(flipped, wantFlipped) {
		t.Errorf("%s: TurnWiring %v %t, want %v, FlipWiring %v %t, want %v", text, turned, turns, wantTurned, flipped, flips, wantFlipped)
	}
}

func TestMaxWires(t *testing.T) {
	if impl.MaxWires != 6 {
		t.Errorf("MaxWires = %d", impl.MaxWires)
	}
}

func TestWiringsOfCases(t *testing.T) {
	cases := []struct {
		n             int
		text, swaps   string
		orders        []string
		turn, flipped string
	}{
		{3, "010", "01 02 12", []string{"012", "102", "120", "210"}, "101", "101"},
		{3, "101", "12 02 01", []string{"012", "021", "201", "210"}, "010", "010"},
		{4, "010210", "01 02 12 03 13 23", []string{"0123", "1023", "1203", "2103", "2130", "2310", "3210"}, "102102", "210212"},
		{4, "021021", "01 23 03 13 02 12", []string{"0123", "1023", "1032", "1302", "3102", "3120", "3210"}, "210212", "102102"},
		{4, "121012", "12 13 23 03 02 01", []string{"0123", "0213", "0231", "0321", "3021", "3201", "3210"}, "210121", "012101"},
		{5, "0102103210", "01 02 12 03 13 23 04 14 24 34", []string{"01234", "10234", "12034", "21034", "21304", "23104", "32104", "32140", "32410", "34210", "43210"}, "1021032103", "3210321323"},
		{5, "0213021302", "01 23 03 24 13 04 14 02 34 12", []string{"01234", "10234", "10324", "13024", "13042", "31042", "31402", "34102", "34120", "43120", "43210"}, "2130213023", "1302130213"},
		{6, "010210321043210", "01 02 12 03 13 23 04 14 24 34 05 15 25 35 45", []string{"012345", "102345", "120345", "210345", "213045", "231045", "321045", "321405", "324105", "342105", "432105", "432150", "432510", "435210", "453210", "543210"}, "102103210432104", "432104321432434"},
	}
	for _, c := range cases {
		w := placesOf(c.text)
		turned, turns := impl.TurnWiring(c.n, w)
		flipped, flips := impl.FlipWiring(c.n, w)
		if !impl.IsWiring(c.n, w) || !turns || !slices.Equal(turned, placesOf(c.turn)) || !flips || !slices.Equal(flipped, placesOf(c.flipped)) {
			t.Errorf("%s: IsWiring %t, TurnWiring %v %t, FlipWiring %v %t", c.text, impl.IsWiring(c.n, w), turned, turns, flipped, flips)
		}
		var swaps [][]int
		for _, swap := range strings.Fields(c.swaps) {
			swaps = append(swaps, placesOf(swap))
		}
		from, ok := impl.WiringFrom(c.n, swaps)
		if got := impl.SwapsOf(c.n, w); !slices.EqualFunc(got, swaps, slices.Equal) || !ok || !slices.Equal(from, w) {
			t.Errorf("%s: SwapsOf %v, WiringFrom %v %t", c.text, got, from, ok)
		}
		for k, order := range c.orders {
			if got := impl.WiresAfter(c.n, w, k); !slices.Equal(got, placesOf(order)) {
				t.Errorf("WiresAfter(%d, %v, %d) = %v, want %s", c.n, w, k, got, order)
			}
		}
	}
}

func TestWiresAfterTooFewOrTooManyExchanges(t *testing.T) {
	for _, c := range someWirings() {
		for _, k := range []int{-1, -2, -len(c.w), -64, len(c.w) + 1, len(c.w) + 2, 63, 64, 1 << 32, 1<<32 + 1, math.MaxInt, math.MaxInt - 1, math.MinInt, math.MinInt + 1} {
			if got := impl.WiresAfter(c.n, c.w, k); len(got) != 0 {
				t.Errorf("WiresAfter(%d, %v, %d) = %v", c.n, c.w, k, got)
			}
		}
	}
}

// TestWiringsOfEachList takes all lists of at most six places from -1 to 3.
func TestWiringsOfEachList(t *testing.T) {
	counts := make([]int, 6)
	for _, text := range textsOver("/0123", 6) {
		w := placesOf(text)
		for n := 2; n <= 5; n++ {
			checkWiring(t, n, w)
			if impl.IsWiring(n, w) {
				counts[n]++
			}
		}
	}
	if !slices.Equal(counts, []int{0, 0, 0, 2, 16, 0}) {
		t.Errorf("there are %v wirings", counts)
	}
}

// TestWiringsOfFiveAndSixWires also changes each place of some of the wirings to each other one, and to those before and after them all.
func TestWiringsOfFiveAndSixWires(t *testing.T) {
	for number, c := range someWirings() {
		checkWiring(t, c.n, c.w)
		if number%4 != 0 {
			continue
		}
		for k := range c.w {
			for p := -1; p <= c.n; p++ {
				changed := slices.Clone(c.w)
				changed[k] = p
				checkWiring(t, c.n, changed)
			}
		}
	}
	// There are as many as the factorial of 10, divided by 7, 5 * 5 and 3 * 3 * 3.
	if count := len(allWirings()); count != 2+16+768 {
		t.Errorf("%d wirings of 3 to 5 wires", count)
	}
}

func TestNoWirings(t *testing.T) {
	for _, c := range badWirings() {
		if wantIsWiring(c.n, c.w) {
			t.Fatalf("%v is a wiring", c)
		}
		checkNoWiring(t, c.n, c.w)
	}
	for _, n := range []int{math.MinInt, -1, 0, 1, 2, 3, 4, 5, 6, 7, 448, 100001, math.MaxInt} {
		checkNoWiring(t, n, make([]int, 100000))
	}
}

func TestEachTwoWiresAreExchangedOnce(t *testing.T) {
	for _, c := range someWirings() {
		swaps := impl.SwapsOf(c.n, c.w)
		slices.SortFunc(swaps, slices.Compare)
		if !slices.EqualFunc(swaps, pairsOf(c.n), slices.Equal) {
			t.Errorf("SwapsOf(%d, %v) has %v", c.n, c.w, swaps)
		}
		wires := impl.WiresAfter(c.n, c.w, len(c.w))
		slices.Reverse(wires)
		if !slices.Equal(wires, impl.WiresAfter(c.n, c.w, 0)) {
			t.Errorf("%d, %v: the wires %v come before the first exchange, %v reversed after the last one", c.n, c.w, impl.WiresAfter(c.n, c.w, 0), wires)
		}
	}
}

func checkWiringFrom(t *testing.T, n int, swaps [][]int) {
	t.Helper()
	want, wantOK := wantFrom(n, swaps)
	got, ok := impl.WiringFrom(n, swaps)
	if ok != wantOK || !slices.Equal(got, want) {
		t.Errorf("WiringFrom(%d, %v) = %v, %t, want %v, %t", n, swaps, got, ok, want, wantOK)
	}
	if ok && !slices.EqualFunc(impl.SwapsOf(n, got), swaps, slices.Equal) {
		t.Errorf("SwapsOf(%d, %v) = %v, want %v", n, got, impl.SwapsOf(n, got), swaps)
	}
}

func TestWiringFromEachOrderOfPairs(t *testing.T) {
	for n, count := range map[int]int{3: 2, 4: 16} {
		pairs := pairsOf(n)
		eachOrder(len(pairs), func(order []int) {
			var swaps [][]int
			for _, at := range order {
				swaps = append(swaps, pairs[at])
			}
			checkWiringFrom(t, n, swaps)
			if _, ok := impl.WiringFrom(n, swaps); ok {
				count--
			}
		})
		if count != 0 {
			t.Errorf("%d wires: %d wirings are missing", n, count)
		}
	}
}

// TestWiringFromSwapsWithOneChange takes the swaps of wirings as they are, and with a pair changed, left out, repeated or exchanged with the next one.
func TestWiringFromSwapsWithOneChange(t *testing.T) {
	for number, c := range someWirings() {
		swaps := wantSwaps(c.n, c.w)
		checkWiringFrom(t, c.n, swaps)
		checkWiringFrom(t, c.n-1, swaps)
		checkWiringFrom(t, c.n+1, swaps)
		for k, swap := range swaps {
			if number%3 != 0 {
				continue
			}
			i, j := swap[0], swap[1]
			for _, other := range [][]int{nil, {}, {i}, {j}, {j, i}, {i, i}, {j, j}, {i, j, j}, {i, j, 0}, {0, i, j}, {i, j + 1}, {i - 1, j}, {i, -1}, {-1, j}, {i, c.n}, {c.n, j}, {i + 1<<32, j}, {i, math.MaxInt}, {math.MinInt, j}, {math.MinInt, math.MaxInt}, swaps[0], swaps[len(swaps)-1]} {
				changed := slices.Clone(swaps)
				changed[k] = other
				checkWiringFrom(t, c.n, changed)
			}
			checkWiringFrom(t, c.n, slices.Concat(swaps[:k], swaps[k+1:]))
			checkWiringFrom(t, c.n, slices.Concat(swaps[:k+1], swaps[k:]))
			if k > 0 {
				checkWiringFrom(t, c.n, slices.Concat(swaps[:k-1], [][]int{swap, swaps[k-1]}, swaps[k+1:]))
			}
		}
	}
}

// TestWiringFromOtherNumbersOfWires takes swaps that would be those of a wiring if there were so many wires.
func TestWiringFromOtherNumbersOfWires(t *testing.T) {
	lists := [][][]int{nil, {}, {{0, 1}}, {nil}, {{}, {}, {}}, pairsOf(3), pairsOf(4), pairsOf(5), pairsOf(6), pairsOf(7), pairsOf(8), make([][]int, 100000)}
	for _, n := range []int{math.MinInt, math.MinInt + 3, -5, -4, -3, -2, -1, 0, 1, 2, 7, 8, 9, 63, 64, 1 << 31, 1 << 32, 1<<32 + 1, 1<<32 + 3, 1 << 62, 1<<62 + 3, math.MaxInt} {
		for _, swaps := range lists {
			if w, ok := impl.WiringFrom(n, swaps); ok || len(w) != 0 {
				t.Errorf("WiringFrom(%d, %.20v) = %v, %t", n, swaps, w, ok)
			}
		}
	}
	for n := 3; n <= 6; n++ {
		for _, swaps := range lists {
			checkWiringFrom(t, n, swaps)
		}
	}
}

// TestWiringsAreParsedFromTheirText asks the promise itself.
func TestWiringsAreParsedFromTheirText(t *testing.T) {
	for _, c := range someWirings() {
		text := impl.WiringText(c.n, c.w)
		if n, w, ok := impl.ParseWiring(text); !ok || n != c.n || !slices.Equal(w, c.w) {
			t.Errorf("ParseWiring(%q) = %d, %v, %t, want %v", text, n, w, ok, c)
		}
	}
}

var wiringForm = regexp.MustCompile(`\A(?:3:[01]{3}|4:[0-2]{6}|5:[0-3]{10}|6:[0-4]{15})\z`)

func checkParseWiring(t *testing.T, text string) {
	t.Helper()
	var want wiring
	if wiringForm.MatchString(text) {
		if c := (wiring{int(text[0] - '0'), placesOf(text[2:])}); wantIsWiring(c.n, c.w) {
			want = c
		}
	}
	n, w, ok := impl.ParseWiring(text)
	if n != want.n || !slices.Equal(w, want.w) || ok != (want.n != 0) {
		t.Errorf("ParseWiring(%.60q) = %d, %.20v, %t, want %v", text, n, w, ok, want)
	}
	if ok && impl.WiringText(n, w) != text {
		t.Errorf("WiringText(%d, %v) = %q, want %q", n, w, impl.WiringText(n, w), text)
	}
}

func TestParseWiring(t *testing.T) {
	accepted := []string{"3:010", "3:101", "4:010210", "4:021021", "4:210121", "5:0102103210", "5:0213021302", "6:010210321043210", "6:432104321432434"}
	for _, text := range accepted {
		if n, w, ok := impl.ParseWiring(text); !ok || n != int(text[0]-'0') || !slices.Equal(w, placesOf(text[2:])) {
			t.Errorf("ParseWiring(%q) = %d, %v, %t", text, n, w, ok)
		}
	}
	rejected := []string{
		"", ":", "3", "3:", ":010", "010", "3010", "3;010", "3,010", "3::010", ":3:010", "3:010:", "3:010:010", "3:01:0", "3:0:10", "3 :010", "3: 010", " 3:010", "3:010 ", "3:010\n", "3:010\x00", "\x003:010", "3:0 1 0", "3:0,1,0", "0:", "0:0",
		"03:010", "003:010", "+3:010", "-3:010", "3.0:010", "3_:010", "0x3:010", "\u0663:010", "3\uff1a010", "3:0\u06610", "3:0\xff0", "\xff:010", "3:\xb0\xb1\xb0",
		"3:01", "3:0101", "3:000", "3:011", "3:111", "3:020", "3:212", "3:-10", "3:0-10", "3:-1-1-1", "3:00100", "3:/0/", "3:0:0", "3:a1a", "4:010", "4:01021", "4:010211", "4:0102100", "4:121321", "4:010213", "5:0102103214", "5:010210321", "5:01021032100", "6:010210321043215", "6:01021032104321", "6:0102103210432100",
		"2:0", "2:", "1:", "1:0", "-1:0", "-2:010", "7:010210321043210543210", "7:", "8:0102103210432105432106543210", "10:" + strings.Repeat("0", 45), "999999:010", "1000000:010",
		"4294967299:010", "18446744073709551619:010", "-18446744073709551613:010", strings.Repeat("3", 100000) + ":010", "3:010" + strings.Repeat("0", 100000), strings.Repeat(":", 100000), strings.Repeat("3:010", 100000), strings.Repeat("0", 100000) + "3:010", "3:" + strings.Repeat("010", 100000),
	}
	for _, c := range badWirings() {
		text := strconv.Itoa(c.n) + ":"
		for _, p := range c.w {
			text += strconv.Itoa(p)
		}
		rejected = append(rejected, text)
	}
	for _, text := range rejected {
		if n, w, ok := impl.ParseWiring(text); ok || n != 0 || len(w) != 0 {
			t.Errorf("ParseWiring(%.60q) = %d, %.20v, %t", text, n, w, ok)
		}
	}
}

func TestParseWiringOfEachShortText(t *testing.T) {
	for _, text := range textsOver("01234:-/", 5) {
		checkParseWiring(t, text)
	}
	for _, text := range textsOver("/012:", 6) {
		checkParseWiring(t, "4:"+text)
	}
}

func TestParseWiringOfTextsWithOneChange(t *testing.T) {
	for _, text := range []string{"3:010", "3:101", "4:010210", "4:210121", "5:0213021302", "6:010210321043210"} {
		checkParseWiring(t, text)
		for i := range len(text) + 1 {
			for _, b := range []byte(everyByte()) {
				checkParseWiring(t, text[:i]+string([]byte{b})+text[i:])
				if i < len(text) {
					checkParseWiring(t, text[:i]+string([]byte{b})+text[i+1:])
				}
			}
			checkParseWiring(t, text[:i])
			checkParseWiring(t, text[i:])
			if i < len(text) {
				checkParseWiring(t, text[:i]+text[i+1:])
			}
		}
	}
}

// TestTurnWiringLeadsAround holds because each place has been taken to the end, at the other side, once after as many turns as there are exchanges, and twice after twice as many.
func TestTurnWiringLeadsAround(t *testing.T) {
	for _, c := range someWirings() {
		w := c.w
		var other []int
		for turns := range 2 * len(c.w) {
			if turns == len(c.w) {
				other = w
			}
			next, ok := impl.TurnWiring(c.n, w)
			if !ok || !impl.IsWiring(c.n, next) {
				t.Fatalf("TurnWiring(%d, %v) = %v, %t", c.n, w, next, ok)
			}
			w = next
		}
		for k, p := range c.w {
			if w[k] != p || other[k] != c.n-2-p {
				t.Errorf("%v turns to %v and then to %v", c, other, w)
			}
		}
	}
}

// TestTurnWiringRenamesTwoWires holds because the wires stand, after the first exchange, as they begin in the turned wiring.
func TestTurnWiringRenamesTwoWires(t *testing.T) {
	for _, c := range someWirings() {
		names := impl.WiresAfter(c.n, c.w, 1)
		var want [][]int
		for _, swap := range impl.SwapsOf(c.n, c.w) {
			i, j := slices.Index(names, swap[0]), slices.Index(names, swap[1])
			want = append(want, []int{min(i, j), max(i, j)})
		}
		want = append(want[1:], want[0])
		turned, _ := impl.TurnWiring(c.n, c.w)
		if got := impl.SwapsOf(c.n, turned); !slices.EqualFunc(got, want, slices.Equal) {
			t.Errorf("%v: SwapsOf the turned wiring %v are %v, want %v", c, turned, got, want)
		}
	}
}

func TestFlipWiringReversesTheSwaps(t *testing.T) {
	for _, c := range someWirings() {
		flipped, ok := impl.FlipWiring(c.n, c.w)
		swaps := impl.SwapsOf(c.n, flipped)
		slices.Reverse(swaps)
		if !ok || !impl.IsWiring(c.n, flipped) || !slices.EqualFunc(swaps, impl.SwapsOf(c.n, c.w), slices.Equal) {
			t.Errorf("FlipWiring(%d, %v) = %v, %t", c.n, c.w, flipped, ok)
		}
		if again, ok := impl.FlipWiring(c.n, flipped); !ok || !slices.Equal(again, c.w) {
			t.Errorf("FlipWiring(%d, %v) = %v, %t, want %v", c.n, flipped, again, ok, c.w)
		}
		turned, _ := impl.TurnWiring(c.n, flipped)
		turned, _ = impl.FlipWiring(c.n, turned)
		if back, ok := impl.TurnWiring(c.n, turned); !ok || !slices.Equal(back, c.w) {
			t.Errorf("%v: flipped, turned, flipped and turned it is %v, %t", c, back, ok)
		}
	}
}

func TestWiringFunctionsLeaveTheirArguments(t *testing.T) {
	for _, c := range slices.Concat(someWirings(), badWirings()) {
		whole := append(slices.Clone(c.w), 0, 1, -3, 9)
		want := slices.Clone(whole)
		w := whole[:len(c.w)]
		impl.IsWiring(c.n, w)
		impl.SwapsOf(c.n, w)
		impl.WiringText(c.n, w)
		impl.TurnWiring(c.n, w)
		impl.FlipWiring(c.n, w)
		for k := range len(w) + 2 {
			impl.WiresAfter(c.n, w, k)
		}
		if !slices.Equal(whole, want) {
			t.Errorf("%v was changed to %v", want, whole)
		}
	}
	for _, c := range someWirings() {
		var whole, want [][]int
		for _, swap := range append(wantSwaps(c.n, c.w), []int{9, 9}, []int{8, 8}) {
			whole = append(whole, append(swap, 7, -7))
			want = append(want, append(slices.Clone(swap), 7, -7))
		}
		var swaps [][]int
		for _, list := range whole {
			swaps = append(swaps, list[:2])
		}
		impl.WiringFrom(c.n, swaps[:len(c.w)])
		impl.WiringFrom(c.n, swaps)
		if !slices.EqualFunc(whole, want, slices.Equal) || !slices.Equal(swaps[len(c.w)], []int{9, 9}) {
			t.Errorf("%v was changed to %v", want, whole)
		}
	}
}

func TestWiringsAreNewEachTime(t *testing.T) {
	want := [][]int{{1, 0, 2, 1, 0, 2}, {2, 1, 0, 2, 1, 2}, {0, 1, 0, 2, 1, 0}, {0, 1, 0, 2, 1, 0}, {0, 1, 2, 3}, {2, 1, 0, 3}, {3, 2, 1, 0}}
	wantPairs := [][]int{{0, 1}, {0, 2}, {1, 2}, {0, 3}, {1, 3}, {2, 3}}
	for range 2 {
		w := placesOf("010210")
		swaps := wantSwaps(4, w)
		turned, _ := impl.TurnWiring(4, w)
		flipped, _ := impl.FlipWiring(4, w)
		from, _ := impl.WiringFrom(4, swaps)
		_, parsed, _ := impl.ParseWiring("4:010210")
		lists := slices.Concat([][]int{turned, flipped, from, parsed, impl.WiresAfter(4, w, 0), impl.WiresAfter(4, w, 3), impl.WiresAfter(4, w, 6)}, impl.SwapsOf(4, w), [][]int{w}, swaps)
		wantLists := slices.Concat(want, wantPairs, [][]int{placesOf("010210")}, wantPairs)
		if !slices.EqualFunc(lists, wantLists, slices.Equal) {
			t.Errorf("%v, want %v", lists, wantLists)
		}
		checkApart(t, lists, wantLists)
	}
}
