package symbol_test

import (
	"math"
	"slices"
	"strconv"
	"strings"
	"testing"
	"unsafe"

	"kiln/api"
	"kiln/symbol"
)

func made(t *testing.T, most int) *symbol.Table {
	t.Helper()
	x, e := symbol.New(most)
	if x == nil || e != api.OK {
		t.Fatalf("New(%d) = %v, %d", most, x, e)
	}
	return x
}

func loaded(t *testing.T, most int, texts ...string) *symbol.Table {
	t.Helper()
	x, e := symbol.Load(texts, most)
	if x == nil || e != api.OK {
		t.Fatalf("Load(%q, %d) = %v, %d", texts, most, x, e)
	}
	return x
}

func wantNoLoad(t *testing.T, most int, want api.Errno, texts ...string) {
	t.Helper()
	if x, e := symbol.Load(texts, most); x != nil || e != want {
		t.Fatalf("Load of %d texts, %d = %v, %d, want nil, %d", len(texts), most, x, e, want)
	}
}

func wantAdd(t *testing.T, x *symbol.Table, text string, want int, wantE api.Errno) {
	t.Helper()
	if n, e := x.Add(text); n != want || e != wantE {
		t.Fatalf("Add(%q) = %d, %d, want %d, %d", text, n, e, want, wantE)
	}
}

func wantFind(t *testing.T, x *symbol.Table, text string, want int, wantThere bool) {
	t.Helper()
	if n, there := x.Find(text); n != want || there != wantThere {
		t.Fatalf("Find(%q) = %d, %v, want %d, %v", text, n, there, want, wantThere)
	}
}

func wantText(t *testing.T, x *symbol.Table, n int, want string, wantE api.Errno) {
	t.Helper()
	if text, e := x.Text(n); text != want || e != wantE {
		t.Fatalf("Text(%d) = %q, %d, want %q, %d", n, text, e, want, wantE)
	}
}

func wantBack(t *testing.T, x *symbol.Table, count int, want api.Errno) {
	t.Helper()
	if e := x.Back(count); e != want {
		t.Fatalf("Back(%d) = %d, want %d", count, e, want)
	}
}

// wantTexts holds all that can be asked of a table against its texts.
func wantTexts(t *testing.T, x *symbol.Table, want ...string) {
	t.Helper()
	if n := x.Count(); n != len(want) {
		t.Fatalf("Count = %d, want %d", n, len(want))
	}
	if list := x.All(); !slices.Equal(list, want) {
		t.Fatalf("All = %q, want %q", list, want)
	}
	for i, text := range want {
		wantText(t, x, i, text, api.OK)
		wantFind(t, x, text, i, true)
	}
	wantText(t, x, len(want), "", api.ErrSymbol)
	wantText(t, x, -1, "", api.ErrSymbol)
}

func long(n int) string { return strings.Repeat("s", n) }

// numbered is n texts, no two the same.
func numbered(n int) []string {
	list := make([]string, n)
	for i := range list {
		list[i] = "s" + strconv.Itoa(i)
	}
	return list
}

// noTexts is what is no symbol's text, as near to one as can be and far off.
func noTexts() []string { return []string{"", long(97), long(98), long(1 << 16)} }

// The chapter's examples, in their order.
func TestExamples(t *testing.T) {
	for _, most := range []int{-1, 4097} {
		if x, e := symbol.New(most); x != nil || e != api.ErrArg {
			t.Fatalf("New(%d) = %v, %d", most, x, e)
		}
	}
	wantAdd(t, made(t, 0), "a", 0, api.ErrSymbols)
	x := made(t, 3)
	wantAdd(t, x, "at:", 0, api.OK)
	wantAdd(t, x, "+", 1, api.OK)
	wantAdd(t, x, "at:", 0, api.OK)
	wantTexts(t, x, "at:", "+")
	wantAdd(t, x, "", 0, api.ErrSymbol)
	wantAdd(t, x, long(97), 0, api.ErrSymbol)
	wantAdd(t, x, long(96), 2, api.OK)
	wantAdd(t, x, "x", 0, api.ErrSymbols)
	wantAdd(t, x, "+", 1, api.OK)
	wantFind(t, x, "+", 1, true)
	wantFind(t, x, "x", 0, false)
	wantTexts(t, x, "at:", "+", long(96))
	wantBack(t, x, 1, api.OK)
	wantFind(t, x, "+", 0, false)
	wantTexts(t, x, "at:")
	wantAdd(t, x, "x", 1, api.OK)
	wantText(t, x, 1, "x", api.OK)
	wantBack(t, x, 3, api.ErrArg)
	wantBack(t, x, -1, api.ErrArg)
	wantBack(t, x, 2, api.OK)
	wantTexts(t, x, "at:", "x")
	y := loaded(t, 3, x.All()...)
	for _, z := range []*symbol.Table{x, y} {
		wantAdd(t, z, "y", 2, api.OK)
		wantAdd(t, z, "z", 0, api.ErrSymbols)
		wantBack(t, z, 0, api.OK)
		wantTexts(t, z)
		wantAdd(t, z, "+", 0, api.OK)
	}
}

func TestExamplesOfLoad(t *testing.T) {
	wantAdd(t, loaded(t, 2, "a", "b"), "c", 0, api.ErrSymbols)
	wantNoLoad(t, 1, api.ErrSymbols, "a", "b")
	wantNoLoad(t, 2, api.ErrSymbol, "a", "a")
	wantNoLoad(t, 2, api.ErrSymbol, "")
	wantNoLoad(t, 5000, api.ErrArg, "a")
	wantNoLoad(t, 1, api.ErrSymbols, "a", "a")
	x := made(t, 9)
	for i, text := range []string{"a", "A", "a\x00"} {
		wantAdd(t, x, text, i, api.OK)
	}
}

// P6.1: which most a table may have.
func TestMost(t *testing.T) {
	for _, most := range []int{-1, -4096, 4097, 1 << 32, math.MaxInt, math.MinInt} {
		if x, e := symbol.New(most); x != nil || e != api.ErrArg {
			t.Errorf("New(%d) = %v, %d", most, x, e)
		}
		wantNoLoad(t, most, api.ErrArg)
		wantNoLoad(t, most, api.ErrArg, "a", "a", "")
	}
	wantNoLoad(t, 4097, api.ErrArg, numbered(5000)...)
	for _, most := range []int{0, 1, 2, 4095, 4096} {
		x := made(t, most)
		wantTexts(t, x)
		list := numbered(most)
		for i, text := range list {
			wantAdd(t, x, text, i, api.OK)
		}
		wantAdd(t, x, "one more", 0, api.ErrSymbols)
		wantTexts(t, x, list...)
		y := loaded(t, most, list...)
		wantTexts(t, y, list...)
		wantAdd(t, y, "one more", 0, api.ErrSymbols)
		wantNoLoad(t, most, api.ErrSymbols, numbered(most+1)...)
	}
}

// P6.1: in which order a list is refused, and wherever in it the fault stands.
func TestLoadRefused(t *testing.T) {
	for _, bad := range noTexts() {
		for at := range 4 {
			list := slices.Insert(numbered(3), at, bad)
			wantNoLoad(t, 4, api.ErrSymbol, list...)
			wantNoLoad(t, 3, api.ErrSymbols, list...)
		}
	}
	for first := range 4 {
		for second := first + 1; second < 5; second++ {
			list := numbered(5)
			list[second] = list[first]
			wantNoLoad(t, 4096, api.ErrSymbol, list...)
			wantNoLoad(t, 4, api.ErrSymbols, list...)
		}
	}
	wantNoLoad(t, 0, api.ErrSymbols, "")
}

// P6.1: a list that is nil is one without texts.
func TestLoadOfNothing(t *testing.T) {
	for _, list := range [][]string{nil, {}} {
		for _, most := range []int{0, 1} {
			wantTexts(t, loaded(t, most, list...))
		}
	}
	wantAdd(t, loaded(t, 1), "a", 0, api.OK)
}

// P6.1 and R4: the list is neither changed nor kept, nor what lies behind its end.
func TestLoadKeepsNoList(t *testing.T) {
	list := []string{"a", "b", "c", "d"}
	x, _ := symbol.Load(list[:2], 4)
	wantAdd(t, x, "new", 2, api.OK)
	wantBack(t, x, 1, api.OK)
	wantAdd(t, x, "other", 1, api.OK)
	if want := []string{"a", "b", "c", "d"}; !slices.Equal(list, want) {
		t.Fatalf("the list is %q", list)
	}
	list[0] = "spoilt"
	wantTexts(t, x, "a", "other")
}

// P6.2: in which order a text is refused: a full table still tells the numbers it has, and says of no text that it is none.
func TestAddToAFullTable(t *testing.T) {
	x := loaded(t, 2, "a", "b")
	for range 2 {
		wantAdd(t, x, "b", 1, api.OK)
		wantAdd(t, x, "c", 0, api.ErrSymbols)
		for _, bad := range noTexts() {
			wantAdd(t, x, bad, 0, api.ErrSymbol)
		}
		wantAdd(t, made(t, 0), "", 0, api.ErrSymbol)
		wantTexts(t, x, "a", "b")
	}
}

// P6.2: a text is bytes, whatever they are.
func TestTextsAreBytes(t *testing.T) {
	list := []string{
		"a", "A", "a\x00", "\x00a", "\x00", "\x00\x00", " ", "a ", "\n", "\xff", "\xff\xfe", "\xef\xbf\xbd",
		"\u00e9", "e\u0301", "\xc3", "at:put:", "#at:", "//", long(95), long(96), long(95) + "t", strings.Repeat("\u00e9", 48),
	}
	x := made(t, 100)
	for i, text := range list {
		wantFind(t, x, text, 0, false)
		wantAdd(t, x, text, i, api.OK)
	}
	wantTexts(t, x, list...)
	wantAdd(t, x, strings.Repeat("\u00e9", 48)+"x", 0, api.ErrSymbol)
	wantTexts(t, loaded(t, 100, list...), list...)
	every := made(t, 256)
	for b := range 256 {
		wantAdd(t, every, string([]byte{byte(b)}), b, api.OK)
	}
}

// P6.3: what is not in the table.
func TestNotThere(t *testing.T) {
	x := loaded(t, 9, "a", "b")
	for _, n := range []int{-1, 2, 3, 8, 9, 1 << 32, math.MaxInt, math.MinInt} {
		wantText(t, x, n, "", api.ErrSymbol)
	}
	for _, text := range append(noTexts(), "c", "A", "ab", "a\x00", " a") {
		wantFind(t, x, text, 0, false)
	}
	wantTexts(t, x, "a", "b")
}

// P6.3 and R4: what All tells is new memory each time, spare room too.
func TestAllIsNewMemory(t *testing.T) {
	x := loaded(t, 9, "a", "b", "c")
	wantBack(t, x, 2, api.OK)
	first, second := x.All(), x.All()
	first[0] = "spoilt"
	_ = append(first, "spoilt")
	spare := first[:cap(first)]
	for i := range spare {
		spare[i] = "spoilt"
	}
	if !slices.Equal(second, []string{"a", "b"}) {
		t.Fatalf("the other list is %q", second)
	}
	wantTexts(t, x, "a", "b")
	wantAdd(t, x, "d", 2, api.OK)
	wantTexts(t, x, "a", "b", "d")
	wantBack(t, x, 0, api.OK)
	if !slices.Equal(second, []string{"a", "b"}) {
		t.Fatalf("behind a Back the list is %q", second)
	}
}

// P6.4: every count that may be, and those beside.
func TestBack(t *testing.T) {
	for count := range 6 {
		list := numbered(5)
		x := loaded(t, 5, list...)
		for _, bad := range []int{-1, 6, 1 << 32, math.MaxInt, math.MinInt} {
			wantBack(t, x, bad, api.ErrArg)
		}
		wantTexts(t, x, list...)
		wantBack(t, x, count, api.OK)
		wantTexts(t, x, list[:count]...)
		for _, text := range list[count:] {
			wantFind(t, x, text, 0, false)
		}
		if count < 5 {
			wantBack(t, x, count+1, api.ErrArg)
		}
		wantBack(t, x, count, api.OK)
		wantTexts(t, x, list[:count]...)
	}
	none := made(t, 3)
	wantBack(t, none, 0, api.OK)
	wantBack(t, none, 1, api.ErrArg)
}

// P6.5: what a Back took may come again, in another order, and so may as many others.
func TestBehindABack(t *testing.T) {
	x := loaded(t, 4, "a", "b", "c", "d")
	wantBack(t, x, 1, api.OK)
	for i, text := range []string{"d", "new", "b"} {
		wantAdd(t, x, text, i+1, api.OK)
	}
	wantAdd(t, x, "c", 0, api.ErrSymbols)
	wantFind(t, x, "c", 0, false)
	wantTexts(t, x, "a", "d", "new", "b")
	big := made(t, 4096)
	for round := range 5 {
		for i, text := range numbered(4096) {
			wantAdd(t, big, text+strings.Repeat("'", round), i, api.OK)
		}
		wantAdd(t, big, "one more", 0, api.ErrSymbols)
		wantBack(t, big, 0, api.OK)
		wantTexts(t, big)
	}
}

// P6.5: a text keeps its number, whatever else comes and goes behind it.
func TestNumbersStay(t *testing.T) {
	x := loaded(t, 100, "a", "b", "c")
	for i, text := range numbered(97) {
		wantAdd(t, x, text, i+3, api.OK)
		wantAdd(t, x, "c", 2, api.OK)
	}
	wantAdd(t, x, "full", 0, api.ErrSymbols)
	wantBack(t, x, 50, api.OK)
	wantBack(t, x, 3, api.OK)
	wantTexts(t, x, "a", "b", "c")
}

// P6.2 to P6.4 and R3: a table that is nil, or that no call made.
func TestNoTable(t *testing.T) {
	copied := *loaded(t, 9, "a")
	for _, x := range []*symbol.Table{nil, {}, new(symbol.Table), &copied} {
		for _, text := range append(noTexts(), "a", "b") {
			wantAdd(t, x, text, 0, api.ErrNil)
			wantFind(t, x, text, 0, false)
		}
		for _, n := range []int{0, 1, -1, math.MaxInt, math.MinInt} {
			wantText(t, x, n, "", api.ErrNil)
			wantBack(t, x, n, api.ErrNil)
		}
		if n, list := x.Count(), x.All(); n != 0 || len(list) != 0 {
			t.Fatalf("Count = %d, All = %q", n, list)
		}
	}
}

// P6.6: two tables share nothing, not even those of one list.
func TestTwoTables(t *testing.T) {
	list := []string{"a", "b"}
	x, y := loaded(t, 3, list...), loaded(t, 3, list...)
	wantAdd(t, x, "x", 2, api.OK)
	wantBack(t, y, 1, api.OK)
	wantAdd(t, y, "y", 1, api.OK)
	wantTexts(t, x, "a", "b", "x")
	wantTexts(t, y, "a", "y")
	z := loaded(t, 3, x.All()...)
	wantBack(t, x, 0, api.OK)
	wantTexts(t, z, "a", "b", "x")
	v, w := made(t, 3), made(t, 3)
	wantAdd(t, v, "v", 0, api.OK)
	wantTexts(t, w)
}

// A symbol does not hold the source it was a piece of.
func TestTextIsAPieceOfItsOwn(t *testing.T) {
	source := strings.Clone("at: i put: x")
	piece := source[4:5]
	added := made(t, 1)
	wantAdd(t, added, piece, 0, api.OK)
	for _, x := range []*symbol.Table{added, loaded(t, 1, piece)} {
		text, _ := x.Text(0)
		if text != "i" || unsafe.StringData(text) == unsafe.StringData(piece) {
			t.Fatalf("Text = %q, a piece of the source", text)
		}
	}
}
