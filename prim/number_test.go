package prim_test

import (
	"math/big"
	"strconv"
	"testing"

	"kiln/api"
	"kiln/class"
	"kiln/prim"
)

// edges is numbers at which something changes.
func edges() []int {
	return []int{least, least + 1, -1 << 29, -65536, -32, -31, -30, -7, -3, -2, -1, 0, 1, 2, 3, 7, 29, 30, 31, 32, 65536, 1 << 29, most - 1, most}
}

// wrapped is the one number that differs from it by a multiple of 2^31.
func wrapped(x *big.Int) int {
	m := new(big.Int).Mod(x, big.NewInt(1<<31)).Int64()
	if m > most {
		m -= 1 << 31
	}
	return int(m)
}

// floor is a / b, rounded down.
func floor(a, b *big.Int) *big.Int {
	q, r := new(big.Int).QuoRem(a, b, new(big.Int))
	if r.Sign() != 0 && r.Sign() != b.Sign() {
		q.Sub(q, big.NewInt(1))
	}
	return q
}

// shifted is a times, or by, 2 so often.
func shifted(a *big.Int, by int) *big.Int {
	if by < 0 {
		return new(big.Int).Rsh(a, uint(min(-by, 64)))
	}
	return new(big.Int).Lsh(a, uint(min(by, 64)))
}

// reckoned is what two numbers come to, exactly and then wrapped.
func reckoned(selector string, x, y int) int {
	a, b, n := big.NewInt(int64(x)), big.NewInt(int64(y)), new(big.Int)
	switch selector {
	case "+":
		n.Add(a, b)
	case "-":
		n.Sub(a, b)
	case "*":
		n.Mul(a, b)
	case "//":
		n = floor(a, b)
	case `\\`:
		n.Sub(a, n.Mul(floor(a, b), b))
	case "bitAnd:":
		n.And(a, b)
	case "bitOr:":
		n.Or(a, b)
	case "bitXor:":
		n.Xor(a, b)
	case "bitShift:":
		n = shifted(a, y)
	case "min:":
		n = a
		if b.Cmp(a) < 0 {
			n = b
		}
	case "max:":
		n = a
		if b.Cmp(a) > 0 {
			n = b
		}
	}
	return wrapped(n)
}

// P17.3: what reckons two numbers.
func TestReckoning(t *testing.T) {
	k := booted(t, 1000, 100)
	for _, s := range []string{"+", "-", "*", "//", `\\`, "min:", "max:", "bitAnd:", "bitOr:", "bitXor:", "bitShift:"} {
		for _, a := range edges() {
			for _, b := range edges() {
				if b == 0 && (s == "//" || s == `\\`) {
					want(t, k, api.Integer, s, 0, api.ErrZero, num(a), num(b))
					continue
				}
				want(t, k, api.Integer, s, num(reckoned(s, a, b)), api.OK, num(a), num(b))
			}
		}
		noInteger(t, k, s)
	}
}

// noInteger hands a primitive of two integers what is none.
func noInteger(t *testing.T, k *class.Kernel, selector string) {
	t.Helper()
	was := seen(k)
	for _, x := range []api.Word{null, yes, no, 2, 16382, empty, obj(api.Integer), obj(api.Root)} {
		for _, r := range []int{least, -1, 0, 3, most} {
			want(t, k, api.Integer, selector, 0, api.ErrPrim, num(r), x)
		}
	}
	if seen(k) != was {
		t.Fatalf("%q has changed something", selector)
	}
}

// P17.3: what compares two numbers.
func TestComparing(t *testing.T) {
	k := booted(t, 1000, 100)
	for _, a := range edges() {
		for _, b := range edges() {
			for s, is := range map[string]bool{"<": a < b, ">": a > b, "<=": a <= b, ">=": a >= b, "=": a == b, "~=": a != b} {
				want(t, k, api.Integer, s, truth(is), api.OK, num(a), num(b))
			}
			for s, is := range map[string]bool{"==": a == b, "=": a == b, "~~": a != b} {
				want(t, k, api.Object, s, truth(is), api.OK, num(a), num(b))
			}
		}
	}
	for _, s := range []string{"<", ">", "<=", ">="} {
		noInteger(t, k, s)
	}
	for _, x := range []api.Word{null, yes, no, 2, 6, empty, obj(api.Integer), laid(t, k, api.Integer, 0, num(1))} {
		for _, a := range edges() {
			want(t, k, api.Integer, "=", no, api.OK, num(a), x)
			want(t, k, api.Integer, "~=", yes, api.OK, num(a), x)
		}
	}
}

// P17.3: what looks at one number.
func TestOneNumber(t *testing.T) {
	k := booted(t, 1000, 100)
	for _, a := range edges() {
		minus := wrapped(big.NewInt(int64(-a)))
		want(t, k, api.Integer, "negated", num(minus), api.OK, num(a))
		if a < 0 {
			want(t, k, api.Integer, "abs", num(minus), api.OK, num(a))
		} else {
			want(t, k, api.Integer, "abs", num(a), api.OK, num(a))
		}
		want(t, k, api.Integer, "even", truth(a&1 == 0), api.OK, num(a))
		want(t, k, api.Integer, "odd", truth(a&1 != 0), api.OK, num(a))
		w, e := prim.Do(k, api.Integer, "printString", num(a), nil)
		if e != api.OK {
			t.Fatalf("printString of %d = %d", a, e)
		}
		wantText(t, k, w, strconv.Itoa(a))
	}
}

// P17.3: the booleans.
func TestBooleans(t *testing.T) {
	k := booted(t, 1000, 100)
	for _, r := range []bool{false, true} {
		of := api.FalseClass
		if r {
			of = api.TrueClass
		}
		want(t, k, of, "not", truth(!r), api.OK, truth(r))
		for _, x := range []bool{false, true} {
			want(t, k, of, "&", truth(r && x), api.OK, truth(r), truth(x))
			want(t, k, of, "and:", truth(r && x), api.OK, truth(r), truth(x))
			want(t, k, of, "or:", truth(r || x), api.OK, truth(r), truth(x))
		}
		for _, s := range []string{"&", "and:", "or:"} {
			for _, x := range []api.Word{null, num(1), num(0), num(2), num(3), 2, empty, obj(api.TrueClass), obj(api.FalseClass)} {
				want(t, k, of, s, 0, api.ErrPrim, truth(r), x)
			}
		}
		for _, s := range prim.Selectors(of) {
			args := make([]api.Word, takes(s))
			for i := range args {
				args[i] = yes
			}
			want(t, k, api.TrueClass+api.FalseClass-of, s, 0, api.ErrPrim, truth(r), args...)
		}
	}
}
