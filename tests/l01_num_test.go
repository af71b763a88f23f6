package tests

import (
	"bytes"
	"math"
	"math/big"
	"regexp"
	"slices"
	"strconv"
	"strings"
	"testing"

	"loop.example/g03104/impl"
)

const (
	numberLimit = 999999
	intLimit    = 999999999999
)

func TestFormatInt(t *testing.T) {
	cases := []struct {
		n    int
		want string
	}{
		{0, "0"}, {5, "5"}, {-5, "-5"}, {9, "9"}, {10, "10"}, {-10, "-10"},
		{-70, "-70"}, {100, "100"}, {1002003, "1002003"},
		{intLimit, "999999999999"}, {-intLimit, "-999999999999"},
		{math.MaxInt, "9223372036854775807"},
		{math.MaxInt - 1, "9223372036854775806"},
		{math.MinInt, "-9223372036854775808"},
		{math.MinInt + 1, "-9223372036854775807"},
	}
	for _, c := range cases {
		if got := impl.FormatInt(c.n); got != c.want {
			t.Errorf("FormatInt(%d) = %q, want %q", c.n, got, c.want)
		}
	}
}

func TestFormatIntAroundPowers(t *testing.T) {
	for shift := range 63 {
		for _, near := range []int{-1, 0, 1} {
			for _, n := range []int{1<<shift + near, -(1 << shift) + near} {
				if got, want := impl.FormatInt(n), big.NewInt(int64(n)).String(); got != want {
					t.Errorf("FormatInt(%d) = %q, want %q", n, got, want)
				}
			}
		}
	}
}

func TestParseNumberAcceptsEachNumber(t *testing.T) {
	for want := 0; want <= numberLimit; want++ {
		if n, ok := impl.ParseNumber(strconv.Itoa(want)); !ok || n != want {
			t.Fatalf("ParseNumber(%d) = %d, %t", want, n, ok)
		}
	}
}

func TestParseIntAccepts(t *testing.T) {
	list := []int{0, 1, -1, 5, -5, 10, -10, -70, 100, numberLimit, numberLimit + 1, -numberLimit - 1, intLimit - 1, intLimit, 1 - intLimit, -intLimit}
	for n := 1; n <= intLimit; n = n*7 + 3 {
		list = append(list, n, -n)
	}
	for n := -2000; n <= 2000; n++ {
		list = append(list, n)
	}
	for _, want := range list {
		if n, ok := impl.ParseInt(impl.FormatInt(want)); !ok || n != want {
			t.Errorf("ParseInt(%d) = %d, %t", want, n, ok)
		}
	}
}

// malformed are the texts that are FormatInt of no int from -intLimit to intLimit.
func malformed() []string {
	long := strings.Repeat("9", 100000)
	return []string{
		"", "007", "00", "01", "000000", "-0", "-00", "-01", "-007",
		"-", "+", "--", "+-", "-+", "--5", "+5", "+0", "-+5", "+-5", "5-", "5+", "1-2",
		" ", " 5", "5 ", "1 2", "- 5", "\t5", "5\t", "5\n", "\n5", "5\r", "5\x00", "\x005", "\u00a05",
		"a", "x5", "5x", "1a2", "1e3", "1.0", "1.", ".5", "0x10", "0b1", "0o7", "1_000", "1,000", "nil", "NaN", "Inf", "-Inf", "?",
		"\xff", "5\xff", "\u0665", "\uff15", "\u22125",
		"1000000000000", "-1000000000000", "9999999999999",
		"9223372036854775807", "-9223372036854775808", "9223372036854775808", "-9223372036854775809",
		"18446744073709551615", "18446744073709551616", "18446744073709551621", "-18446744073709551611", "36893488147419103237",
		"340282366920938463463374607431768211461",
		long, "-" + long, "1" + strings.Repeat("0", 100000), strings.Repeat("0", 100000), strings.Repeat("0", 100000) + "5", strings.Repeat("-", 100000), long + "x",
	}
}

func TestParseRejectsMalformed(t *testing.T) {
	for _, s := range malformed() {
		if n, ok := impl.ParseNumber(s); ok || n != 0 {
			t.Errorf("ParseNumber(%.40q) = %d, %t, want 0, false", s, n, ok)
		}
		if n, ok := impl.ParseInt(s); ok || n != 0 {
			t.Errorf("ParseInt(%.40q) = %d, %t, want 0, false", s, n, ok)
		}
	}
}

func TestParseNumberRejectsBeyondItsLimits(t *testing.T) {
	for _, n := range []int{-1, -5, -999999, numberLimit + 1, numberLimit + 2, 10 * numberLimit, 1 << 32, 1<<32 + 5, intLimit, -intLimit} {
		if got, ok := impl.ParseNumber(strconv.Itoa(n)); ok || got != 0 {
			t.Errorf("ParseNumber(%d) = %d, %t, want 0, false", n, got, ok)
		}
	}
}

func TestParseIntRejectsBeyondItsLimits(t *testing.T) {
	for _, n := range []int{intLimit + 1, -intLimit - 1, intLimit + 2, 10 * intLimit, -10 * intLimit, math.MaxInt, math.MinInt} {
		if got, ok := impl.ParseInt(strconv.Itoa(n)); ok || got != 0 {
			t.Errorf("ParseInt(%d) = %d, %t, want 0, false", n, got, ok)
		}
	}
}

var decimalForm = regexp.MustCompile(`\A(0|-?[1-9][0-9]{0,11})\z`)

// wantParsed tells by the form of the text alone which integer it stands for.
func wantParsed(s string, least int, greatest int) (int, bool) {
	if !decimalForm.MatchString(s) {
		return 0, false
	}
	n, ok := new(big.Int).SetString(s, 10)
	if !ok || n.Int64() < int64(least) || n.Int64() > int64(greatest) {
		return 0, false
	}
	return int(n.Int64()), true
}

func checkParsers(t *testing.T, s string) {
	t.Helper()
	n, ok := impl.ParseNumber(s)
	if want, wantOK := wantParsed(s, 0, numberLimit); n != want || ok != wantOK {
		t.Errorf("ParseNumber(%q) = %d, %t, want %d, %t", s, n, ok, want, wantOK)
	}
	n, ok = impl.ParseInt(s)
	if want, wantOK := wantParsed(s, -intLimit, intLimit); n != want || ok != wantOK {
		t.Errorf("ParseInt(%q) = %d, %t, want %d, %t", s, n, ok, want, wantOK)
	}
}

// textsOver returns all texts of at most most bytes of the alphabet.
func textsOver(alphabet string, most int) []string {
	all := []string{""}
	for last := all; most > 0; most-- {
		var next []string
		for _, s := range last {
			for i := range len(alphabet) {
				next = append(next, s+alphabet[i:i+1])
			}
		}
		all = append(all, next...)
		last = next
	}
	return all
}

func everyByte() string {
	b := make([]byte, 256)
	for i := range b {
		b[i] = byte(i)
	}
	return string(b)
}

func TestParsersOfAllShortTexts(t *testing.T) {
	for _, s := range textsOver(everyByte(), 2) {
		checkParsers(t, s)
	}
	for _, s := range textsOver("0159+-_ .ax", 4) {
		checkParsers(t, s)
	}
	for digits := 1; digits <= 40; digits++ {
		for _, first := range []string{"", "-", "+", "0"} {
			checkParsers(t, first+strings.Repeat("9", digits))
			checkParsers(t, first+"1"+strings.Repeat("0", digits))
			checkParsers(t, first+strings.Repeat("0", digits))
		}
	}
}

func TestSplitByte(t *testing.T) {
	cases := []struct {
		s    string
		by   byte
		want []string
	}{
		{"", ',', []string{""}},
		{"", 0, []string{""}},
		{"", 0xff, []string{""}},
		{"abc", ',', []string{"abc"}},
		{"a,b,c", ',', []string{"a", "b", "c"}},
		{",", ',', []string{"", ""}},
		{",,", ',', []string{"", "", ""}},
		{",a", ',', []string{"", "a"}},
		{"a,", ',', []string{"a", ""}},
		{",a,", ',', []string{"", "a", ""}},
		{"a,,b", ',', []string{"a", "", "b"}},
		{",,a,,b,,", ',', []string{"", "", "a", "", "b", "", ""}},
		{"a b  c", ' ', []string{"a", "b", "", "c"}},
		{"a\x00b", 0, []string{"a", "b"}},
		{"a\xffb\xff", 0xff, []string{"a", "b", ""}},
		{"\x80\xfe\x80", 0x80, []string{"", "\xfe", ""}},
		{"\xfe,\xff", ',', []string{"\xfe", "\xff"}},
		{"\u00e9", 0xc3, []string{"", "\xa9"}},
		{"\u00e9", 0xa9, []string{"\xc3", ""}},
		{"\u00e9", 0xe9, []string{"\u00e9"}},
		{"\xe9", 0xe9, []string{"", ""}},
		{"\ufffd", 0xff, []string{"\ufffd"}},
		{"\xff", 0xfe, []string{"\xff"}},
	}
	for _, c := range cases {
		if got := impl.SplitByte(c.s, c.by); !slices.Equal(got, c.want) {
			t.Errorf("SplitByte(%q, %q) = %q, want %q", c.s, c.by, got, c.want)
		}
	}
}

func TestSplitByteOfEachByte(t *testing.T) {
	all := everyByte()
	for i := range len(all) {
		got := impl.SplitByte(all, all[i])
		if want := []string{all[:i], all[i+1:]}; !slices.Equal(got, want) {
			t.Errorf("SplitByte at byte %d = %q, want %q", i, got, want)
		}
	}
}

func TestJoin(t *testing.T) {
	cases := []struct {
		list []string
		by   string
		want string
	}{
		{nil, "", ""},
		{nil, ",", ""},
		{[]string{}, ",", ""},
		{[]string{""}, ",", ""},
		{[]string{"a"}, ",", "a"},
		{[]string{"a"}, "", "a"},
		{[]string{"a,b"}, ",", "a,b"},
		{[]string{"a", "b"}, "-", "a-b"},
		{[]string{"a", "b", "c"}, ", ", "a, b, c"},
		{[]string{"a", "b", "c"}, "", "abc"},
		{[]string{"", ""}, ",", ","},
		{[]string{"", "", ""}, ",", ",,"},
		{[]string{"", "a", ""}, ",", ",a,"},
		{[]string{"\xff", "\x80"}, "\xfe", "\xff\xfe\x80"},
		{[]string{"\xc3", "\xa9"}, "", "\u00e9"},
	}
	for _, c := range cases {
		if got := impl.Join(c.list, c.by); got != c.want {
			t.Errorf("Join(%q, %q) = %q, want %q", c.list, c.by, got, c.want)
		}
	}
}

func TestSplitAndJoinAreInverse(t *testing.T) {
	for _, by := range []byte{',', ' ', 0, 0x80, 0xff} {
		sep := string([]byte{by})
		for _, s := range textsOver("a"+sep+"\xfe\u00e9", 5) {
			parts := impl.SplitByte(s, by)
			if len(parts) != bytes.Count([]byte(s), []byte{by})+1 {
				t.Errorf("SplitByte(%q, %q) has %d parts", s, by, len(parts))
			}
			for _, p := range parts {
				if strings.Contains(p, sep) {
					t.Errorf("SplitByte(%q, %q) left a separator in %q", s, by, p)
				}
			}
			if got := impl.Join(parts, sep); got != s {
				t.Errorf("Join(SplitByte(%q, %q)) = %q", s, by, got)
			}
			if again := impl.SplitByte(impl.Join(parts, sep), by); !slices.Equal(again, parts) {
				t.Errorf("SplitByte(Join(%q, %q)) = %q", parts, sep, again)
			}
		}
	}
}

func TestJoinLeavesItsArgument(t *testing.T) {
	whole := []string{"a", "b", "c", "spare"}
	list := whole[:3]
	impl.Join(list, ",")
	impl.Join(list[:1], ",")
	if want := []string{"a", "b", "c", "spare"}; !slices.Equal(whole, want) {
		t.Errorf("Join changed its argument to %q", whole)
	}
}

func TestSplitByteGivesNewMemory(t *testing.T) {
	for _, s := range []string{"", "a", "a,b"} {
		first, second := impl.SplitByte(s, ','), impl.SplitByte(s, ',')
		want := slices.Clone(second)
		first[0] = "changed"
		if !slices.Equal(second, want) || !slices.Equal(impl.SplitByte(s, ','), want) {
			t.Errorf("two results of SplitByte(%q) share memory", s)
		}
	}
}
