package ops

import (
	"math"
	"strconv"
	"strings"

	"plunder/api"
)

// Format tells a number's text.
func Format(v int64) string {
	return strconv.FormatInt(v, 10)
}

// Parse tells a text's number.
func Parse(s string) (int64, api.Errno) {
	if len(s) > api.MaxNumber {
		return 0, api.ErrLong
	}
	digits, below := strings.CutPrefix(s, "-")
	if !below {
		n, ok := magnitude(digits, math.MaxInt64)
		if !ok {
			return 0, api.ErrForm
		}
		return int64(n), api.OK
	}
	n, ok := magnitude(digits, math.MaxInt64+1)
	if !ok || n == 0 { // no number's text is -0
		return 0, api.ErrForm
	}
	// The least number has no counterpart above 0, but wraps to itself here.
	return -int64(n), api.OK
}

// magnitude reads digits as Format writes them: at least one, no 0 ahead of others, at most limit.
func magnitude(digits string, limit uint64) (uint64, bool) {
	n := uint64(0)
	for at, r := range digits {
		if r < '0' || r > '9' {
			return 0, false
		}
		if at > 0 && n == 0 {
			return 0, false
		}
		d := uint64(r - '0')
		if n > (limit-d)/10 { // asked ahead of the product, which could wrap
			return 0, false
		}
		n = n*10 + d
	}
	return n, digits != ""
}
