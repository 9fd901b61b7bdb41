package name_test

import (
	"strings"
	"testing"

	"kiln/name"
)

func want(t *testing.T, s string, class, field bool) {
	t.Helper()
	if name.Class(s) != class || name.Field(s) != field {
		t.Errorf("%q: a class's %v, a field's %v, want %v, %v", s, name.Class(s), name.Field(s), class, field)
	}
}

func between(b, least, most int) bool { return least <= b && b <= most }

// P13.4: every byte, as the first one, behind the first, as the last.
func TestBytes(t *testing.T) {
	for b := range 256 {
		s := string([]byte{byte(b)})
		capital, small, digit := between(b, 65, 90), between(b, 97, 122), between(b, 48, 57)
		plain := capital || small || digit
		want(t, s, capital, small)
		want(t, s+"a1Z", capital, small)
		want(t, "A"+s, plain, false)
		want(t, "A9"+s+"z", plain, false)
		want(t, "a"+s, false, plain)
		want(t, "zZ"+s+"0", false, plain)
	}
}

// P13.4: 1 to 32 bytes.
func TestLengths(t *testing.T) {
	for n := range 40 {
		good := n >= 1 && n <= 32
		want(t, strings.Repeat("A", n), good, false)
		want(t, strings.Repeat("z", n), false, good)
	}
	want(t, strings.Repeat("A", 1<<16), false, false)
	want(t, "A"+strings.Repeat("\xc3\xa4", 4), false, false)
}

// P13.4: the reserved words, and what is near to them.
func TestReserved(t *testing.T) {
	for _, s := range []string{"self", "super", "nil", "true", "false"} {
		want(t, s, false, false)
		want(t, s+"s", false, true)
		want(t, s[1:], false, true)
		want(t, strings.ToUpper(s), true, false)
		want(t, strings.ToUpper(s[:1])+s[1:], true, false)
	}
	want(t, "thisContext", false, true)
}
