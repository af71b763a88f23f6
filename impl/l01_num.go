package impl

import (
	"errors"
	"strconv"
	"strings"
)

const (
	greatestNumber = 999999
	greatestInt    = 999999999999
)

var errMalformedInteger = errors.New("malformed integer")

func FormatInt(n int) string { return strconv.Itoa(n) }

func ParseNumber(s string) (n int, ok bool) {
	defer func() {
		if recover() != nil {
			n, ok = 0, false
		}
	}()
	return integerBetween(s, 0, greatestNumber), true
}

func ParseInt(s string) (n int, ok bool) {
	defer func() {
		if recover() != nil {
			n, ok = 0, false
		}
	}()
	return integerBetween(s, -greatestInt, greatestInt), true
}

func integerBetween(s string, least int, greatest int) int {
	n, err := strconv.Atoi(s)
	// Atoi also takes "+5", "007" and "-0", which FormatInt never returns.
	if err != nil || FormatInt(n) != s || n < least || n > greatest {
		panic(errMalformedInteger)
	}
	return n
}

func SplitByte(s string, by byte) []string {
	// string(by) would encode a byte above 127 as two bytes of UTF-8.
	return strings.Split(s, string([]byte{by}))
}

func Join(list []string, by string) string { return strings.Join(list, by) }
