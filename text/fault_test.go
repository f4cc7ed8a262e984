package text

import (
	"errors"
	"strings"
	"testing"

	"plunder/api"
)

// A reader gives up with an error that wraps its fault.
func TestGivingUp(t *testing.T) {
	spot := api.Spot{Err: api.ErrSyntax, At: 3}
	err := error(gaveUp{word: "if", err: fault{spot}})
	var f fault
	if !errors.As(err, &f) || f.spot != spot {
		t.Errorf("%v wraps %v", err, f)
	}
	if text := err.Error(); !strings.Contains(text, "if") || !strings.Contains(text, "141") || !strings.Contains(text, "3") {
		t.Errorf("the error's text is %q", text)
	}
	if got := caught(err); got != spot {
		t.Errorf("caught(%v) = %v", err, got)
	}
	if got := caught(nil); got != (api.Spot{}) {
		t.Errorf("caught(nil) = %v", got)
	}
}

// What is no fault goes on.
func TestOtherPanics(t *testing.T) {
	for _, thrown := range []any{"text", errors.New("an error"), 7} {
		func() {
			defer func() {
				if got := recover(); got != thrown {
					t.Errorf("behind a panic with %v: %v", thrown, got)
				}
			}()
			caught(thrown)
		}()
	}
}
