package text_test

import (
	"math"
	"testing"

	"cubby/text"
)

func TestNumber(t *testing.T) {
	for s, want := range map[string]uint64{"0": 0, "7": 7, "10": 10, "18446744073709551615": math.MaxUint64} {
		if n, ok := text.Number(s, math.MaxUint64); !ok || n != want {
			t.Errorf("Number(%q): %d, %v", s, n, ok)
		}
	}
	for _, s := range []string{"", "00", "01", "+1", "-1", "1 ", "a", "1:", "1/", "18446744073709551616", "99999999999999999999999"} {
		if n, ok := text.Number(s, math.MaxUint64); ok || n != 0 {
			t.Errorf("Number(%q): %d, %v", s, n, ok)
		}
	}
	for n, ok := range map[string]bool{"99": true, "100": true, "101": false, "999": false} {
		if _, got := text.Number(n, 100); got != ok {
			t.Errorf("Number(%q, 100): %v", n, got)
		}
	}
	if _, ok := text.Number("5", 4); ok {
		t.Error("Number above a digit")
	}
}

func TestSmallAndSays(t *testing.T) {
	if got := text.Small("AZaz@[\u00c9"); got != "azaz@[\u00c9" {
		t.Errorf("Small: %q", got)
	}
	for s, want := range map[string]string{"": "", "a": "a", `"a"`: "a", `"a\"b\\"`: `a"b\`, `"a" b`: `"a" b`, `"a`: "a", `"a\`: "a", `""`: "", `"`: ""} {
		if got := text.Says(s); got != want {
			t.Errorf("Says(%q): %q; want %q", s, got, want)
		}
	}
}
