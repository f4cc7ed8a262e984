package text_test

import (
	"strings"
	"testing"

	"plunder/api"
	"plunder/text"
)

// checkTail holds Tail of a text against what Parse is to answer for it.
func checkTail(t *testing.T, prefix string, spot api.Spot) {
	t.Helper()
	tail, err := text.Tail(prefix)
	switch {
	case len(prefix) > 8192:
		if tail != "" || err != api.ErrLong {
			t.Errorf("14.4: Tail of %d bytes = %q, %d", len(prefix), tail, err)
		}
	case spot == api.Spot{Err: api.ErrSyntax, At: len(prefix)}:
		if s, whole := text.Parse(prefix + tail); err != api.OK || len(tail) > 8192 || whole != (api.Spot{}) || len(s.Fns) == 0 {
			t.Errorf("14.4: Tail(%q) = %q, %d; with that Parse answers %v", prefix, tail, err, whole)
		}
	default:
		if tail != "" || err != spot.Err {
			t.Errorf("14.4: Tail(%q) = %q, %d, want the error %d", prefix, tail, err, spot.Err)
		}
	}
}

// 14.4: the examples of the chapter, and other edges.
func TestTails(t *testing.T) {
	for _, prefix := range []string{"", " ", "fn", "f", "fn f() { let x = min(1", "fn f() { let x = min 1", "fn f() { } // x", "fn f() { // x", "fn f() { do 1 /", "fn f() { do 1 //", "fn f() { do 1 >", "fn f() { do 1 >>", "fn f() { retur", "fn f() { return", "fn f() { do -", "fn f() { do -9223372036854775808", "fn f() { do 9223372036854775808", "fn f() { do 0", "fn f() { do 00", "fn f() { } fn", "fn f() { } f", "fn f() { #", "fn f() { x = 1 }", strings.Repeat("n", 25), "fn " + strings.Repeat("n", 24), "fn f() { do reduce", "fn f() { do reduce(", "fn f() { do reduce(f", "fn f() { do reduce(f,", "fn f() { do reduce(f, g, 1, 2,", "fn f() { do each", "fn f() { spawn", "fn f() { spawn x = g", "fn f() { if 1 { } else", "fn f() { if 1 { } else if", "fn f() { if"} {
		checkTail(t, prefix, modelSpot(prefix))
	}
}

// 14.4: all beginnings of drawn texts, and of some that are as deep as may be.
func TestTailsOfBeginnings(t *testing.T) {
	d := newDrawer(6)
	for n := range 60 {
		src := d.join(d.spell(d.source()))
		if n%2 == 0 {
			src = d.nested(38)
		}
		src = src[:min(len(src), 1500)]
		for end := range len(src) + 1 {
			_, spot := text.Parse(src[:end])
			checkTail(t, src[:end], spot)
		}
	}
}

// 14.4: a text as deep as may be, at each of its words, with much to be finished.
func TestTailsOfTheDeepest(t *testing.T) {
	for _, open := range []string{"(", "-", "!", "g(", "min(", "max(1, ", "reduce(", "reduce(f, ", "reduce(f, g, ", "each(f, "} {
		inner := strings.TrimSuffix(strings.Repeat(open, 38), open)
		for _, start := range []string{"fn f() { do ", "fn f() { spawn x = g(", "fn f() { if 1 { } else if "} {
			for n := range 5 {
				prefix := start + inner + strings.Repeat(open, n)
				checkTail(t, prefix, modelSpot(prefix))
			}
		}
	}
	for n := range 45 {
		for _, open := range []string{"while 1 { ", "if 1 { } else ", "if 1 { if 2 { } else "} {
			prefix := "fn f() { " + strings.Repeat(open, n)
			checkTail(t, prefix, modelSpot(prefix))
			checkTail(t, prefix+"if", modelSpot(prefix+"if"))
		}
	}
}

// 14.4: the length is looked at ahead of all else.
func TestTailLength(t *testing.T) {
	for _, src := range []string{"fn f() { }", "fn f() {", "#", "fn", "", "fn f() { } //", "fn f() { //", strings.Repeat("n", 25)} {
		for _, length := range []int{8191, 8192, 8193, 16384, 20000} {
			prefix := src + strings.Repeat(" ", length-len(src))
			checkTail(t, prefix, modelSpot(prefix))
		}
	}
	full := "fn f() { do 1" + strings.Repeat("+1", 4089)
	for _, prefix := range []string{full, full[:len(full)-1], full + "*"} {
		if len(prefix) > 8192 {
			t.Fatalf("%d bytes", len(prefix))
		}
		checkTail(t, prefix, modelSpot(prefix))
	}
}
