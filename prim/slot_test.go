package prim_test

import (
	"slices"
	"testing"

	"kiln/api"
	"kiln/class"
	"kiln/prim"
	"kiln/space"
	symbols "kiln/symbol"
)

// P17.3: arrays.
func TestArrays(t *testing.T) {
	k := booted(t, 20000, 400)
	others := []api.Word{num(1), num(least), 2, 16382, null, yes, empty, str(t, k, "a"), obj(api.Array)}
	for _, n := range []int{0, 1, 2, 5, 8192} {
		a := empty
		if n > 0 {
			a = array(t, k, slices.Repeat([]api.Word{num(3)}, n)...)
		}
		want(t, k, api.Array, "size", num(n), api.OK, a)
		want(t, k, api.Array, "isEmpty", truth(n == 0), api.OK, a)
		for _, i := range []int{least, -1, 0, n + 1, n + 2, 8193, most} {
			want(t, k, api.Array, "at:", 0, api.ErrIndex, a, num(i))
			want(t, k, api.Array, "at:put:", 0, api.ErrIndex, a, num(i), null)
		}
		for _, x := range others[2:] {
			want(t, k, api.Array, "at:", 0, api.ErrPrim, a, x)
			want(t, k, api.Array, "at:put:", 0, api.ErrPrim, a, x, null)
		}
		for i := 1; i <= n; i += max(1, n/4) {
			for _, y := range append(others, a) {
				want(t, k, api.Array, "at:put:", y, api.OK, a, num(i), y)
				want(t, k, api.Array, "at:", y, api.OK, a, num(i))
			}
			want(t, k, api.Array, "at:put:", num(3), api.OK, a, num(i), num(3))
		}
		wantObject(t, k, a, api.Array, 0, slices.Repeat([]api.Word{num(3)}, n)...)
	}
}

// What is called a string or an array, and has the other's slots, answers words, too.
func TestSlotsOfTheOtherFormat(t *testing.T) {
	k := booted(t, 2000, 200)
	s, a, o := laid(t, k, api.String, 0, num(5), null), laid(t, k, api.Array, 1, 7, 8), laid(t, k, api.Object, 1, 9)
	want(t, k, api.String, "size", num(2), api.OK, s)
	want(t, k, api.String, "at:put:", num(6), api.OK, s, num(2), num(6))
	want(t, k, api.String, "at:", num(6), api.OK, s, num(2))
	want(t, k, api.Array, "at:", num(8), api.OK, a, num(2))
	want(t, k, api.Array, "at:put:", num(255), api.OK, a, num(1), num(255))
	want(t, k, api.Array, "at:put:", 0, api.ErrPrim, a, num(1), null)
	want(t, k, api.Array, "at:put:", 0, api.ErrPrim, a, num(1), num(256))
	wantObject(t, k, a, api.Array, 1, 255, 8)
	want(t, k, api.Object, "instVarAt:", num(9), api.OK, o, num(1))
	want(t, k, api.Object, "instVarAt:put:", 0, api.ErrPrim, o, num(1), num(-1))
	wantObject(t, k, fresh(t, k, api.Object, "copy", o), api.Object, 1, 9)
	wantObject(t, k, fresh(t, k, api.Object, "copy", s), api.String, 0, num(5), num(6))
	// A space without a kernel has numbers and symbols all the same.
	bare, _ := space.New(100, 10)
	none, _ := symbols.New(0)
	over, _ := class.Over(bare, none)
	if w, e := prim.Do(over, api.Integer, "+", num(3), []api.Word{num(4)}); w != num(7) || e != api.OK {
		t.Fatalf("Do = %d, %d", w, e)
	}
}
