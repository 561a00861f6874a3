package codes

import (
	"fmt"
	"math"
	"testing"
)

func TestHashTextBothWays(t *testing.T) {
	for _, hash := range append(edges(), Hash(""), Hash("a")) {
		text := HashText(hash)
		if want := fmt.Sprintf("%016x", hash); text != want {
			t.Errorf("HashText(%d) = %q, want %q", hash, text, want)
		}
		if got, ok := FromHashText(text); got != hash || !ok {
			t.Errorf("FromHashText(%q) = %d, %t", text, got, ok)
		}
	}
}

func TestFromHashTextOfOthers(t *testing.T) {
	for _, text := range []string{"", "0", "af63dc4c8601ec8", "af63dc4c8601ec8c0", "0af63dc4c8601ec8c", "AF63DC4C8601EC8C", "af63dc4c8601ec8C", "af63dc4c8601ec8g", "0x63dc4c8601ec8c", "+f63dc4c8601ec8c", "-f63dc4c8601ec8c", "af63dc4c_601ec8c", " f63dc4c8601ec8c", "af63dc4c8601ec8 ", "af63dc4c8601ec8\n"} {
		if got, ok := FromHashText(text); got != 0 || ok {
			t.Errorf("FromHashText(%q) = %d, %t", text, got, ok)
		}
	}
}

func TestDecimal(t *testing.T) {
	for text, want := range map[string]int{"0": 0, "7": 7, "10": 10, "999999": 999999} {
		if got, ok := Decimal(text, 999999); got != want || !ok {
			t.Errorf("Decimal(%q) = %d, %t", text, got, ok)
		}
	}
	for _, text := range []string{"", "-1", "-0", "+0", "+1", "00", "01", "007", "1000000", "9999999", "9223372036854775808", "18446744073709551616", "1.0", "1e3", "0x1", "0b1", "1_0", " 1", "1 ", "1\n", "a", "\u0661", "\xff"} {
		if got, ok := Decimal(text, 999999); got != 0 || ok {
			t.Errorf("Decimal(%q) = %d, %t", text, got, ok)
		}
	}
	if got, ok := Decimal("9223372036854775807", math.MaxInt); got != math.MaxInt || !ok {
		t.Errorf("the greatest int: %d, %t", got, ok)
	}
}
