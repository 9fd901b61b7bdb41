package word_test

import (
	"math"
	"math/big"
	"math/rand"
	"strconv"
	"testing"

	"kiln/api"
	"kiln/word"
)

const (
	least = -1 << 30
	most  = 1<<30 - 1
)

// maker, taker and sum are the three shapes of the package's calls.
type (
	maker = func(int) (api.Word, api.Errno)
	taker = func(api.Word) (int, api.Errno)
	sum   = func(int, int) (int, api.Errno)
)

// outside is ints that are no numbers.
var outside = []int{most + 1, least - 1, 1 << 31, -1 << 31, 1<<32 + 1, -1<<32 - 1, math.MaxInt, math.MinInt}

// edges is ints at which something ends: ranges, bits, signs.
func edges() []int {
	list := []int{0, 1, -1, 2, -2, 3, -3, 5, -5, 7, -7, math.MaxInt, math.MinInt}
	for bit := 2; bit < 63; bit++ {
		for near := -2; near <= 2; near++ {
			list = append(list, 1<<bit+near, -1<<bit+near)
		}
	}
	for near := -4; near <= 4; near++ {
		list = append(list, 4*api.MaxSymbols+near, 4*api.MaxOops+near)
	}
	return list
}

// numbers is those of the edges that are in range.
func numbers() []int {
	var list []int
	for _, n := range edges() {
		if n >= least && n <= most {
			list = append(list, n)
		}
	}
	return list
}

// pairs is all pairs of numbers at the edges, and as many anywhere.
func pairs() [][2]int {
	var list [][2]int
	r := rand.New(rand.NewSource(1))
	for _, a := range numbers() {
		for _, b := range numbers() {
			list = append(list, [2]int{a, b}, [2]int{r.Intn(1<<31) - 1<<30, r.Intn(1<<31) - 1<<30})
		}
	}
	return list
}

// wrapped is the one number that differs from x by a multiple of 2^31.
func wrapped(x *big.Int) int {
	half, whole := big.NewInt(1<<30), big.NewInt(1<<31)
	up := new(big.Int).Add(x, half)
	up.Mod(up, whole)
	return int(up.Sub(up, half).Int64())
}

func TestMakingWords(t *testing.T) {
	for _, c := range []struct {
		name        string
		call        maker
		least, most int
		factor, add int
	}{
		{"Int", word.Int, least, most, 2, 1},
		{"Symbol", word.Symbol, 0, 4095, 4, 2},
		{"Object", word.Object, 1, 65536, 4, 0},
	} {
		for _, n := range append(edges(), 4094, 4095, 4096, 65535, 65536, 65537) {
			want, code := api.Word(c.factor*n+c.add), api.OK
			if n < c.least || n > c.most {
				want, code = 0, api.ErrArg
			}
			if w, e := c.call(n); w != want || e != code {
				t.Errorf("P1.1: %s(%d) = %d, %d, want %d, %d", c.name, n, w, e, want, code)
			}
		}
	}
}

func TestMakingWordsOfTheExamples(t *testing.T) {
	for _, c := range []struct {
		name string
		call maker
		n    int
		w    api.Word
		e    api.Errno
	}{
		{"Int", word.Int, 0, 1, api.OK},
		{"Int", word.Int, -1, -1, api.OK},
		{"Int", word.Int, 5, 11, api.OK},
		{"Int", word.Int, 1073741823, 2147483647, api.OK},
		{"Int", word.Int, -1073741824, -2147483647, api.OK},
		{"Int", word.Int, 1073741824, 0, api.ErrArg},
		{"Int", word.Int, -1073741825, 0, api.ErrArg},
		{"Symbol", word.Symbol, 0, 2, api.OK},
		{"Symbol", word.Symbol, 4095, 16382, api.OK},
		{"Symbol", word.Symbol, 4096, 0, api.ErrArg},
		{"Symbol", word.Symbol, -1, 0, api.ErrArg},
		{"Object", word.Object, 1, 4, api.OK},
		{"Object", word.Object, 65536, 262144, api.OK},
		{"Object", word.Object, 0, 0, api.ErrArg},
		{"Object", word.Object, 65537, 0, api.ErrArg},
	} {
		if w, e := c.call(c.n); w != c.w || e != c.e {
			t.Errorf("P1.1: %s(%d) = %d, %d, want %d, %d", c.name, c.n, w, e, c.w, c.e)
		}
	}
}

func TestKindNumbers(t *testing.T) {
	if got := [4]int{word.KindNone, word.KindInt, word.KindSymbol, word.KindObject}; got != [4]int{0, 1, 2, 3} {
		t.Errorf("P1.2: the kinds are %v", got)
	}
}

// read is the kind of an int and the number of which it is the word, told by the chapter's definition alone.
func read(w int) (kind, n int) {
	x := big.NewInt(int64(w))
	for _, c := range []struct{ kind, factor, add, least, most int }{
		{word.KindInt, 2, 1, least, most},
		{word.KindSymbol, 4, 2, 0, 4095},
		{word.KindObject, 4, 0, 1, 65536},
	} {
		q, r := new(big.Int).DivMod(new(big.Int).Sub(x, big.NewInt(int64(c.add))), big.NewInt(int64(c.factor)), new(big.Int))
		if r.Sign() == 0 && q.Cmp(big.NewInt(int64(c.least))) >= 0 && q.Cmp(big.NewInt(int64(c.most))) <= 0 {
			return c.kind, int(q.Int64())
		}
	}
	return word.KindNone, 0
}

func TestReadingWords(t *testing.T) {
	for _, w := range edges() {
		kind, n := read(w)
		if got := word.Kind(api.Word(w)); got != kind {
			t.Errorf("P1.2: Kind(%d) = %d, want %d", w, got, kind)
		}
		checkTakers(t, api.Word(w), kind, n)
	}
}

// checkTakers asks Num, Sym and Oop for a word of that kind and number: two of them refuse it, or all three.
func checkTakers(t *testing.T, w api.Word, kind, n int) {
	t.Helper()
	for i, call := range []taker{word.Num, word.Sym, word.Oop} {
		want, code := 0, api.ErrWord
		if kind == i+1 {
			want, code = n, api.OK
		}
		if got, e := call(w); got != want || e != code {
			t.Errorf("P1.3: %s(%d) = %d, %d, want %d, %d", []string{"Num", "Sym", "Oop"}[i], w, got, e, want, code)
		}
	}
}

func TestReadingWordsOfTheExamples(t *testing.T) {
	for _, c := range []struct {
		w       api.Word
		kind, n int
	}{
		{1, word.KindInt, 0}, {-3, word.KindInt, -2}, {11, word.KindInt, 5},
		{2, word.KindSymbol, 0}, {6, word.KindSymbol, 1},
		{4, word.KindObject, 1}, {8, word.KindObject, 2},
		{0, word.KindNone, 0}, {-2, word.KindNone, 0}, {-4, word.KindNone, 0},
		{16386, word.KindNone, 0}, {262148, word.KindNone, 0},
		{2147483649, word.KindNone, 0}, {-2147483649, word.KindNone, 0},
	} {
		if got := word.Kind(c.w); got != c.kind {
			t.Errorf("P1.2: Kind(%d) = %d, want %d", c.w, got, c.kind)
		}
		checkTakers(t, c.w, c.kind, c.n)
	}
}

func TestWrap(t *testing.T) {
	for _, c := range [][2]int{
		{0, 0}, {most, most}, {least, least},
		{1073741824, -1073741824}, {-1073741825, 1073741823}, {2147483648, 0},
		{9223372036854775807, -1}, {-9223372036854775808, 0},
	} {
		if n := word.Wrap(c[0]); n != c[1] {
			t.Errorf("P1.4: Wrap(%d) = %d, want %d", c[0], n, c[1])
		}
	}
	r := rand.New(rand.NewSource(2))
	list := edges()
	for range 2000 {
		list = append(list, int(r.Uint64()))
	}
	for _, n := range list {
		if got, want := word.Wrap(n), wrapped(big.NewInt(int64(n))); got != want {
			t.Errorf("P1.4: Wrap(%d) = %d, want %d", n, got, want)
		}
	}
}

func TestSumsOfTheExamples(t *testing.T) {
	for _, c := range []struct {
		name    string
		call    sum
		a, b, n int
		e       api.Errno
	}{
		{"P1.5: Add", word.Add, 1073741823, 1, -1073741824, api.OK},
		{"P1.5: Add", word.Add, -5, 3, -2, api.OK},
		{"P1.5: Sub", word.Sub, -1073741824, 1, 1073741823, api.OK},
		{"P1.5: Sub", word.Sub, 3, 5, -2, api.OK},
		{"P1.5: Mul", word.Mul, 65536, 32768, 0, api.OK},
		{"P1.5: Mul", word.Mul, 1073741823, 1073741823, 1, api.OK},
		{"P1.5: Mul", word.Mul, -6, 7, -42, api.OK},
		{"P1.5: Add", word.Add, 1073741824, 0, 0, api.ErrArg},
		{"P1.6: Div", word.Div, 7, 2, 3, api.OK},
		{"P1.6: Mod", word.Mod, 7, 2, 1, api.OK},
		{"P1.6: Div", word.Div, -7, 2, -4, api.OK},
		{"P1.6: Mod", word.Mod, -7, 2, 1, api.OK},
		{"P1.6: Div", word.Div, 7, -2, -4, api.OK},
		{"P1.6: Mod", word.Mod, 7, -2, -1, api.OK},
		{"P1.6: Div", word.Div, -7, -2, 3, api.OK},
		{"P1.6: Mod", word.Mod, -7, -2, -1, api.OK},
		{"P1.6: Div", word.Div, -6, 2, -3, api.OK},
		{"P1.6: Mod", word.Mod, -6, 2, 0, api.OK},
		{"P1.6: Div", word.Div, -1073741824, -1, -1073741824, api.OK},
		{"P1.6: Mod", word.Mod, -1073741824, -1, 0, api.OK},
		{"P1.6: Div", word.Div, 1, 0, 0, api.ErrZero},
		{"P1.6: Mod", word.Mod, 1, 0, 0, api.ErrZero},
		{"P1.6: Div", word.Div, 1073741824, 0, 0, api.ErrArg},
		{"P1.6: Mod", word.Mod, 1073741824, 0, 0, api.ErrArg},
		{"P1.7: And", word.And, -1, 5, 5, api.OK},
		{"P1.7: Or", word.Or, -4, 3, -1, api.OK},
		{"P1.7: Xor", word.Xor, -1, 5, -6, api.OK},
		{"P1.7: And", word.And, -1073741824, 1073741823, 0, api.OK},
		{"P1.8: Shift", word.Shift, 9, 0, 9, api.OK},
		{"P1.8: Shift", word.Shift, 1, 29, 536870912, api.OK},
		{"P1.8: Shift", word.Shift, 1, 30, -1073741824, api.OK},
		{"P1.8: Shift", word.Shift, 1, 31, 0, api.OK},
		{"P1.8: Shift", word.Shift, -5, -1, -3, api.OK},
		{"P1.8: Shift", word.Shift, 5, -40, 0, api.OK},
		{"P1.8: Shift", word.Shift, -5, -40, -1, api.OK},
		{"P1.8: Shift", word.Shift, 3, 1073741823, 0, api.OK},
		{"P1.8: Shift", word.Shift, -1, -1073741824, -1, api.OK},
		{"P1.8: Shift", word.Shift, 1, 1073741824, 0, api.ErrArg},
	} {
		if n, e := c.call(c.a, c.b); n != c.n || e != c.e {
			t.Errorf("%s(%d, %d) = %d, %d, want %d, %d", c.name, c.a, c.b, n, e, c.n, c.e)
		}
	}
}

// sums is all calls with two numbers.
var sums = []struct {
	name string
	call sum
}{
	{"P1.5: Add", word.Add}, {"P1.5: Sub", word.Sub}, {"P1.5: Mul", word.Mul},
	{"P1.6: Div", word.Div}, {"P1.6: Mod", word.Mod},
	{"P1.7: And", word.And}, {"P1.7: Or", word.Or}, {"P1.7: Xor", word.Xor},
	{"P1.8: Shift", word.Shift},
}

func TestSumsRefuseWhatIsNoNumber(t *testing.T) {
	for _, s := range sums {
		for _, n := range outside {
			for _, c := range [][2]int{{n, 1}, {1, n}, {n, 0}, {0, n}, {n, -1}, {-1, n}, {n, n}} {
				if got, e := s.call(c[0], c[1]); got != 0 || e != api.ErrArg {
					t.Errorf("%s(%d, %d) = %d, %d, want ErrArg", s.name, c[0], c[1], got, e)
				}
			}
		}
	}
}

// check asks a call for two numbers and holds the answer against one that is not wrapped.
func check(t *testing.T, name string, call sum, a, b int, want *big.Int) {
	t.Helper()
	if n, e := call(a, b); n != wrapped(want) || e != api.OK {
		t.Errorf("%s(%d, %d) = %d, %d, want %d", name, a, b, n, e, wrapped(want))
	}
}

func TestAddSubMul(t *testing.T) {
	for _, p := range pairs() {
		x, y := big.NewInt(int64(p[0])), big.NewInt(int64(p[1]))
		check(t, "P1.5: Add", word.Add, p[0], p[1], new(big.Int).Add(x, y))
		check(t, "P1.5: Sub", word.Sub, p[0], p[1], new(big.Int).Sub(x, y))
		check(t, "P1.5: Mul", word.Mul, p[0], p[1], new(big.Int).Mul(x, y))
	}
}

// floor is x / y rounded down, which neither Quo nor Div of big is.
func floor(x, y *big.Int) *big.Int {
	q, r := new(big.Int).QuoRem(x, y, new(big.Int))
	if r.Sign()*y.Sign() < 0 {
		q.Sub(q, big.NewInt(1))
	}
	return q
}

func TestDivMod(t *testing.T) {
	for _, p := range pairs() {
		a, b := p[0], p[1]
		if b == 0 {
			continue
		}
		x, y := big.NewInt(int64(a)), big.NewInt(int64(b))
		q := floor(x, y)
		rest := new(big.Int).Sub(x, new(big.Int).Mul(q, y))
		check(t, "P1.6: Div", word.Div, a, b, q)
		check(t, "P1.6: Mod", word.Mod, a, b, rest)
		if m, _ := word.Mod(a, b); m != 0 && (m < 0) != (b < 0) {
			t.Errorf("P1.6: Mod(%d, %d) = %d: not of the sign of %d", a, b, m, b)
		}
	}
}

func TestDivModByZero(t *testing.T) {
	for _, a := range numbers() {
		for _, call := range []sum{word.Div, word.Mod} {
			if n, e := call(a, 0); n != 0 || e != api.ErrZero {
				t.Errorf("P1.6: %d by 0: %d, %d, want ErrZero", a, n, e)
			}
		}
	}
}

// bit is the i-th of a number's 31 bits.
func bit(n, i int) int {
	if n < 0 {
		n += 1 << 31
	}
	return n / (1 << i) % 2
}

// ofBits is the number whose i-th bit is 1 where f holds of how many of a and b have it.
func ofBits(a, b int, f func(have int) bool) *big.Int {
	n := new(big.Int)
	for i := range 31 {
		if f(bit(a, i) + bit(b, i)) {
			n.SetBit(n, i, 1)
		}
	}
	return n
}

func TestAndOrXor(t *testing.T) {
	for _, p := range pairs() {
		check(t, "P1.7: And", word.And, p[0], p[1], ofBits(p[0], p[1], func(have int) bool { return have == 2 }))
		check(t, "P1.7: Or", word.Or, p[0], p[1], ofBits(p[0], p[1], func(have int) bool { return have >= 1 }))
		check(t, "P1.7: Xor", word.Xor, p[0], p[1], ofBits(p[0], p[1], func(have int) bool { return have == 1 }))
	}
}

func TestShift(t *testing.T) {
	for _, a := range numbers() {
		x := big.NewInt(int64(a))
		for by := range 140 {
			power := new(big.Int).Lsh(big.NewInt(1), uint(by))
			check(t, "P1.8: Shift", word.Shift, a, by, new(big.Int).Mul(x, power))
			check(t, "P1.8: Shift", word.Shift, a, -by, floor(x, power))
		}
		for _, by := range numbers() {
			if by >= 31 {
				check(t, "P1.8: Shift", word.Shift, a, by, new(big.Int))
			}
			if by <= -31 {
				check(t, "P1.8: Shift", word.Shift, a, by, floor(x, big.NewInt(1<<31)))
			}
		}
	}
}

func TestText(t *testing.T) {
	for n, want := range map[int]string{0: "0", 7: "7", -7: "-7", 10: "10", -100: "-100", most: "1073741823", least: "-1073741824"} {
		if s, e := word.Text(n); s != want || e != api.OK {
			t.Errorf("P1.9: Text(%d) = %q, %d, want %q", n, s, e, want)
		}
	}
	for _, n := range numbers() {
		s, e := word.Text(n)
		if back, err := strconv.Atoi(s); err != nil || back != n || e != api.OK || len(s) > 1 && (s[0] == '0' || s[0] == '+' || s[:2] == "-0") {
			t.Errorf("P1.9: Text(%d) = %q, %d", n, s, e)
		}
	}
	for _, n := range outside {
		if s, e := word.Text(n); s != "" || e != api.ErrArg {
			t.Errorf("P1.9: Text(%d) = %q, %d, want ErrArg", n, s, e)
		}
	}
}

func TestEveryWordIsOfOneThing(t *testing.T) {
	things := map[api.Word][2]int{}
	take := func(kind, n int, w api.Word, e api.Errno) {
		if e != api.OK {
			t.Fatalf("P1.10: kind %d of %d: %d", kind, n, e)
		}
		if other, there := things[w]; there && other != [2]int{kind, n} {
			t.Fatalf("P1.10: %d is the word of %v and of %d, %d", w, other, kind, n)
		}
		things[w] = [2]int{kind, n}
		if got := word.Kind(w); got != kind {
			t.Fatalf("P1.10: Kind(%d) = %d, want %d", w, got, kind)
		}
		checkTakers(t, w, kind, n)
	}
	for s := range api.MaxSymbols {
		w, e := word.Symbol(s)
		take(word.KindSymbol, s, w, e)
	}
	for k := 1; k <= api.MaxOops; k++ {
		w, e := word.Object(k)
		take(word.KindObject, k, w, e)
	}
	for n := -200000; n <= 200000; n++ {
		w, e := word.Int(n)
		take(word.KindInt, n, w, e)
	}
	for _, n := range numbers() {
		w, e := word.Int(n)
		take(word.KindInt, n, w, e)
	}
}

func TestWrappingAtEveryStepOrAtTheEnd(t *testing.T) {
	r := rand.New(rand.NewSource(3))
	list := numbers()
	for range 500 {
		n := list[r.Intn(len(list))]
		whole := big.NewInt(int64(n))
		for range 1 + r.Intn(40) {
			b := list[r.Intn(len(list))]
			y := big.NewInt(int64(b))
			var e api.Errno
			switch r.Intn(3) {
			case 0:
				n, e = word.Add(n, b)
				whole.Add(whole, y)
			case 1:
				n, e = word.Sub(n, b)
				whole.Sub(whole, y)
			case 2:
				n, e = word.Mul(n, b)
				whole.Mul(whole, y)
			}
			if e != api.OK {
				t.Fatalf("P1.10: a step of a sum is refused: %d", e)
			}
		}
		if n != wrapped(whole) {
			t.Fatalf("P1.10: wrapped at every step %d, at the end %d", n, wrapped(whole))
		}
	}
}

func TestDivTimesAndMod(t *testing.T) {
	for _, p := range pairs() {
		a, b := p[0], p[1]
		if b == 0 {
			continue
		}
		q, _ := word.Div(a, b)
		m, _ := word.Mod(a, b)
		product, _ := word.Mul(q, b)
		if back, e := word.Add(product, m); back != a || e != api.OK {
			t.Errorf("P1.10: %d by %d: (%d times it) + %d = %d, %d", a, b, q, m, back, e)
		}
	}
}

// answer is what a call answered, whatever its shape.
type answer struct {
	n    int
	text string
	e    api.Errno
}

// answers is what every call answers of a and b.
func answers(a, b int) []answer {
	var list []answer
	for _, call := range []maker{word.Int, word.Symbol, word.Object} {
		w, e := call(a)
		list = append(list, answer{n: int(w), e: e})
	}
	for _, call := range []taker{word.Num, word.Sym, word.Oop} {
		n, e := call(api.Word(a))
		list = append(list, answer{n: n, e: e})
	}
	for _, s := range sums {
		n, e := s.call(a, b)
		list = append(list, answer{n: n, e: e})
	}
	s, e := word.Text(a)
	return append(list, answer{text: s, e: e}, answer{n: word.Kind(api.Word(a))}, answer{n: word.Wrap(a)})
}

// some is every fifth of the edges, and what is out of range: all pairs of all edges would be too many to hold.
func some() []int {
	list := append([]int{0, 1, -1, least, most}, outside...)
	for i, n := range edges() {
		if i%5 == 0 {
			list = append(list, n)
		}
	}
	return list
}

func TestAnswersHangOnArgumentsAlone(t *testing.T) {
	list := some()
	first := make([][][]answer, len(list))
	for i, a := range list {
		for _, b := range list {
			first[i] = append(first[i], answers(a, b))
		}
	}
	for i := len(list) - 1; i >= 0; i-- {
		for j := len(list) - 1; j >= 0; j-- {
			for k, again := range answers(list[i], list[j]) {
				if was := first[i][j][k]; again != was {
					t.Fatalf("P1.11: call %d of %d, %d: %v, and again: %v", k, list[i], list[j], was, again)
				}
				if again.e != api.OK && (again.n != 0 || again.text != "") {
					t.Fatalf("P1.11, R2: call %d of %d, %d: %v beside an error", k, list[i], list[j], again)
				}
			}
		}
	}
}
