package script

import (
	"strings"

	"plunder/api"
	"plunder/ops"
)

// Encode tells a script's text.
func Encode(s api.Script) (string, api.Errno) {
	if len(s.Picks) > api.MaxPicks || len(s.Draws) > api.MaxPicks {
		return "", api.ErrLong
	}
	var b strings.Builder
	b.WriteString(wordPicks)
	writeRows(&b, s.Picks)
	b.WriteString(" " + wordDraws)
	writeRows(&b, s.Draws)
	if b.Len() > api.MaxScript {
		return "", api.ErrLong
	}
	return b.String(), api.OK
}

// writeRows writes a list's rows of equal numbers, as long as the text is not too long by now: it can come to hundreds of times what is allowed.
func writeRows(b *strings.Builder, list []int) {
	for len(list) > 0 && b.Len() <= api.MaxScript {
		k := row(list)
		b.WriteString(" " + ops.Format(int64(list[0])))
		if k > 1 {
			b.WriteString("*" + ops.Format(int64(k)))
		}
		list = list[k:]
	}
}

// row tells how many numbers at the list's beginning are equal.
func row(list []int) int {
	for i, x := range list {
		if x != list[0] {
			return i
		}
	}
	return len(list)
}
