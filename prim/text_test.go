package prim_test

import (
	"slices"
	"strings"
	"testing"

	"kiln/api"
	"kiln/class"
	symbols "kiln/symbol"
)

func someTexts() []string {
	return []string{"", "\x00", "a", "ab", "b", "abc", "abd", "aB", "\xff", "\x80a", "a\x00", "a\x00b", "ü", strings.Repeat("s", 95), strings.Repeat("s", 96), strings.Repeat("s", 97)}
}

// P17.3: how long strings are, and what they hold.
func TestStringSlots(t *testing.T) {
	k := booted(t, 4000, 200)
	for _, s := range someTexts() {
		w := str(t, k, s)
		want(t, k, api.String, "size", num(len(s)), api.OK, w)
		want(t, k, api.String, "isEmpty", truth(s == ""), api.OK, w)
		for i := range len(s) {
			want(t, k, api.String, "at:", num(int(s[i])), api.OK, w, num(i+1))
		}
		for _, i := range []int{least, -1, 0, len(s) + 1, len(s) + 2, 8192, 8193, most} {
			want(t, k, api.String, "at:", 0, api.ErrIndex, w, num(i))
			want(t, k, api.String, "at:put:", 0, api.ErrIndex, w, num(i), num(0))
			want(t, k, api.String, "at:put:", 0, api.ErrIndex, w, num(i), num(255))
		}
		for _, x := range []api.Word{null, yes, 2, empty, w} {
			want(t, k, api.String, "at:", 0, api.ErrPrim, w, x)
			want(t, k, api.String, "at:put:", 0, api.ErrPrim, w, x, num(1))
			want(t, k, api.String, "at:put:", 0, api.ErrPrim, w, num(1), x)
			want(t, k, api.String, "at:put:", 0, api.ErrPrim, w, num(0), x)
		}
		for _, y := range []int{least, -1, 256, 257, most} {
			want(t, k, api.String, "at:put:", 0, api.ErrPrim, w, num(1), num(y))
			want(t, k, api.String, "at:put:", 0, api.ErrPrim, w, num(0), num(y))
		}
		wantText(t, k, w, s)
	}
}

// P17.3: what is put is there, and no other slot has changed.
func TestStringPut(t *testing.T) {
	k := booted(t, 4000, 200)
	w, beside := str(t, k, "abcdefghi"), str(t, k, "abcdefghi")
	bytes := []byte("abcdefghi")
	for i := range bytes {
		for _, b := range []int{0, 1, 127, 128, 254, 255, 65 + i} {
			want(t, k, api.String, "at:put:", num(b), api.OK, w, num(i+1), num(b))
			bytes[i] = byte(b)
			wantText(t, k, w, string(bytes))
		}
	}
	wantText(t, k, beside, "abcdefghi")
}

// P17.3: strings held against each other, and laid together.
func TestTwoStrings(t *testing.T) {
	k := booted(t, 12000, 600)
	for _, a := range someTexts() {
		r := str(t, k, a)
		for _, b := range someTexts() {
			x := str(t, k, b)
			want(t, k, api.String, "=", truth(a == b), api.OK, r, x)
			want(t, k, api.String, "<", truth(a < b), api.OK, r, x)
			wantText(t, k, fresh(t, k, api.String, ",", r, x), a+b)
			wantText(t, k, x, b)
			k.Space().Drop(2)
		}
		want(t, k, api.String, "=", yes, api.OK, r, r)
		want(t, k, api.String, "<", no, api.OK, r, r)
		wantText(t, k, fresh(t, k, api.String, ",", r, r), a+a)
		wantText(t, k, r, a)
		others := []api.Word{null, yes, num(97), 2, symbol(t, k, "a"), symbol(t, k, "abc"), empty, array(t, k, num(97)), obj(api.String), laid(t, k, api.Object, 1, 97)}
		for _, x := range others {
			want(t, k, api.String, "=", no, api.OK, r, x)
			want(t, k, api.String, "<", 0, api.ErrPrim, r, x)
			want(t, k, api.String, ",", 0, api.ErrPrim, r, x)
		}
	}
}

// P17.3: two strings together have at most MaxSlots bytes.
func TestLongStrings(t *testing.T) {
	k := booted(t, 20000, 200)
	most, half, one, none := str(t, k, strings.Repeat("m", 8192)), str(t, k, strings.Repeat("h", 4096)), str(t, k, "1"), str(t, k, "")
	wantText(t, k, fresh(t, k, api.String, ",", half, half), strings.Repeat("h", 8192))
	wantText(t, k, fresh(t, k, api.String, ",", most, none), strings.Repeat("m", 8192))
	was := seen(k)
	want(t, k, api.String, ",", 0, api.ErrPrim, most, one)
	want(t, k, api.String, ",", 0, api.ErrPrim, one, most)
	want(t, k, api.String, ",", 0, api.ErrPrim, most, most)
	// Also where there is a mark, or no room.
	k.Space().Heap().Mark(1)
	want(t, k, api.String, ",", 0, api.ErrPrim, most, one)
	k.Space().Heap().Mark(0)
	if seen(k) != was {
		t.Fatal("something has changed")
	}
	full := booted(t, 160+2+2048+3, 22)
	a, b := str(t, full, strings.Repeat("m", 8192)), str(t, full, "1")
	want(t, full, api.String, ",", 0, api.ErrPrim, a, b)
	want(t, full, api.String, ",", 0, api.ErrFull, b, b)
}

// P17.3: symbols of strings.
func TestAsSymbol(t *testing.T) {
	k := booted(t, 4000, 200)
	for _, s := range someTexts() {
		w, n := str(t, k, s), k.Symbols().Count()
		if s == "" || len(s) > 96 {
			want(t, k, api.String, "asSymbol", 0, api.ErrPrim, w)
			if k.Symbols().Count() != n {
				t.Fatal("a symbol was added")
			}
			continue
		}
		want(t, k, api.String, "asSymbol", api.Word(4*n+2), api.OK, w)
		want(t, k, api.String, "asSymbol", api.Word(4*n+2), api.OK, str(t, k, s))
		if text, _ := k.Symbols().Text(n); text != s || k.Symbols().Count() != n+1 {
			t.Fatalf("the symbol is %q", text)
		}
		wantText(t, k, w, s)
	}
	want(t, k, api.String, "asSymbol", 2, api.OK, str(t, k, "Object"))
}

// P17.3: a table that is full has the symbols that it has.
func TestFullTable(t *testing.T) {
	booted := booted(t, 4000, 200)
	full, _ := symbols.Load(booted.Symbols().All(), 15)
	k, _ := class.Over(booted.Space(), full)
	want(t, k, api.String, "asSymbol", 4*14+2, api.OK, str(t, k, "more"))
	had := k.Symbols().All()
	want(t, k, api.String, "asSymbol", 0, api.ErrSymbols, str(t, k, "nope"))
	want(t, k, api.String, "asSymbol", 0, api.ErrPrim, str(t, k, ""))
	if all := k.Symbols().All(); !slices.Equal(all, had) || len(all) != 15 {
		t.Fatalf("the symbols are %q", all)
	}
	want(t, k, api.String, "asSymbol", 4*14+2, api.OK, str(t, k, "more"))
	want(t, k, api.String, "asSymbol", 2, api.OK, str(t, k, "Object"))
}

// P17.3: what is told of symbols.
func TestSymbols(t *testing.T) {
	k := booted(t, 4000, 200)
	var texts []string
	for _, s := range someTexts() {
		if s != "" && len(s) <= 96 {
			texts = append(texts, s)
		}
	}
	for _, a := range texts {
		r := symbol(t, k, a)
		want(t, k, api.Symbol, "size", num(len(a)), api.OK, r)
		wantText(t, k, fresh(t, k, api.Symbol, "asString", r), a)
		for _, b := range texts {
			want(t, k, api.Symbol, "<", truth(a < b), api.OK, r, symbol(t, k, b))
		}
		for _, x := range []api.Word{null, num(3), str(t, k, a), empty, obj(api.Symbol)} {
			want(t, k, api.Symbol, "<", 0, api.ErrPrim, r, x)
		}
	}
}

// P17.3: the text of a symbol that the table has not is empty.
func TestSymbolsThatAreNotThere(t *testing.T) {
	k := booted(t, 4000, 200)
	n := k.Symbols().Count()
	for _, r := range []api.Word{api.Word(4*n + 2), 16382} {
		want(t, k, api.Symbol, "size", num(0), api.OK, r)
		wantText(t, k, fresh(t, k, api.Symbol, "asString", r), "")
		want(t, k, api.Symbol, "<", yes, api.OK, r, 2)
		want(t, k, api.Symbol, "<", no, api.OK, 2, r)
		want(t, k, api.Symbol, "<", no, api.OK, r, r)
		want(t, k, api.Object, "class", obj(api.Symbol), api.OK, r)
	}
	if k.Symbols().Count() != n {
		t.Fatal("a symbol was added")
	}
}
