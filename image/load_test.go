package image_test

import (
	"fmt"
	"slices"
	"strings"
	"testing"

	"kiln/api"
	"kiln/image"
)

// P23.3: each line of a text, spoilt in its form.
func TestForm(t *testing.T) {
	text := rich(t).save()
	load(t, text)
	lines := strings.Split(strings.TrimSuffix(text, "\n"), "\n")
	for i, line := range lines {
		with := func(l ...string) string {
			all := append(slices.Clone(lines[:i]), l...)
			return strings.Join(append(all, lines[i+1:]...), "\n") + "\n"
		}
		refuses(t, "a line less", with())
		refuses(t, "a line twice", with(line, line))
		refuses(t, "an empty line", with("", line))
		refuses(t, "an empty line behind", with(line, ""))
		for _, l := range []string{
			" " + line, line + " ", line + "\r", line + "\x00", "\t" + line, line + " ff", line + " -", strings.ToUpper(line),
			strings.Replace(line, " ", "  ", 1), strings.Replace(line, " ", "\t", 1), strings.Replace(line, " ", " 0", 1),
			strings.Replace(line, " ", " +", 1), strings.Replace(line, " ", " -", 1), strings.Replace(line, " ", "", 1), line[1:],
		} {
			// Some of these leave the line as it is.
			if l != line {
				refuses(t, "another line", with(l))
			}
		}
	}
	small := booted(t, 200, 30).save()
	for _, line := range []string{"", "x", "x 4", "c 40 61", "w", "b", "w 0", "b 0", "w -4", "end"} {
		refuses(t, "a line that is no object", replaced(t, replaced(t, small, "objects 20", "objects 21"), "end\n", line+"\nend\n"))
		refuses(t, "a line that is no symbol", replaced(t, replaced(t, small, "symbols 14", "symbols 15"), "objects", line+"\nobjects"))
	}
	for _, s := range []string{text + "\n", text + "end\n", text + " ", strings.TrimSuffix(text, "\n"), "\n" + text, text + text, strings.ReplaceAll(text, "\n", "\r\n")} {
		refuses(t, "another end", s)
	}
}

// P23.3: numbers that may not be, wherever one stands.
func TestNumbers(t *testing.T) {
	text := booted(t, 2000, 100).save()
	for _, s := range []string{
		"", "-", "+1", "01", "00", "-0", "-01", "1.0", "1e2", "0x1", "1_0", "٣", "one", "9223372036854775807", "9223372036854775808",
		"-9223372036854775808", "-9223372036854775809", strings.Repeat("9", 400), strings.Repeat("0", 400), "1048577", "65537", "1073741825", "-1",
	} {
		if s != "65537" {
			refuses(t, "words: "+s, replaced(t, text, "room 2000 100 0", "room "+s+" 100 0"))
		}
		refuses(t, "oops: "+s, replaced(t, text, "room 2000 100 0", "room 2000 "+s+" 0"))
		if s != "1048577" && s != "65537" {
			refuses(t, "mark: "+s, replaced(t, text, "room 2000 100 0", "room 2000 100 "+s))
		}
		refuses(t, "symbols: "+s, replaced(t, text, "symbols 14", "symbols "+s))
		refuses(t, "objects: "+s, replaced(t, text, "objects 20", "objects "+s))
		refuses(t, "a class: "+s, replaced(t, text, "w 44 80 72", "w "+s+" 80 72"))
		refuses(t, "a slot: "+s, replaced(t, text, "w 44 80 72", "w 44 "+s+" 72"))
	}
	for _, s := range []string{"159 20 0", "160 19 0", "0 0 0", "0 20 0", "160 0 0", "2000 100", "2000 100 0 0", "2000", ""} {
		refuses(t, "room "+s, replaced(t, text, "room 2000 100 0", "room "+s))
	}
	for _, s := range []string{"160 20 0", "1048576 65536 1073741824", "160 65536 1", "1048576 20 0"} {
		v := load(t, replaced(t, text, "room 2000 100 0", "room "+s))
		state := v.k.Space().Heap().State()
		if got := fmt.Sprint(state.Words, " ", state.Oops, " ", state.Mark); got != s {
			t.Fatalf("the room is %q, want %q", got, s)
		}
	}
	for _, n := range []string{"0", "13", "15", "4096"} {
		refuses(t, "symbols "+n, replaced(t, text, "symbols 14", "symbols "+n))
	}
	for _, n := range []string{"0", "19", "21", "100"} {
		refuses(t, "objects "+n, replaced(t, text, "objects 20", "objects "+n))
	}
}

// P23.3: symbols: as many as may be, as long as may be, no two the same.
func TestSymbols(t *testing.T) {
	first := pictured(booted(t, 1000, 100).save())
	with := func(texts ...string) *picture {
		p := first.copied()
		p.symbols = append(p.symbols, texts...)
		return p
	}
	var many []string
	for i := range api.MaxSymbols - 14 {
		many = append(many, fmt.Sprint("s", i))
	}
	keeps(t, "4096 symbols", with(many...))
	refuses(t, "4097 symbols", with(append(many, "x")...).text())
	keeps(t, "96 bytes", with(strings.Repeat("x", 96), strings.Repeat("\x00", 96), strings.Repeat("\xff", 95)))
	refuses(t, "97 bytes", with(strings.Repeat("x", 97)).text())
	refuses(t, "no bytes", with("a", "").text())
	refuses(t, "twice the same", with("a", "b", "a").text())
	refuses(t, "a kernel's class's name again", with("Object").text())
	keeps(t, "any bytes", with("\n", " ", "\x00", "\xff\xfe", "end"))
	text := with("a").text()
	for _, s := range []string{"6", "616", "6g", "6A", "0x61", " 61", "61 ", "6 1", "g1", ":1", "`1", "/1"} {
		refuses(t, "digits "+s, replaced(t, text, "\n61\n", "\n"+s+"\n"))
	}
	v := load(t, with("a", "\x00\xff", "at:put:").text())
	if got := v.k.Symbols().All()[14:]; !slices.Equal(got, []string{"a", "\x00\xff", "at:put:"}) {
		t.Fatalf("the symbols are %q", got)
	}
	// There is still room for all the others.
	for i := v.k.Symbols().Count(); i < api.MaxSymbols; i++ {
		if n, e := v.k.Symbols().Add(fmt.Sprint("t", i)); n != i || e != api.OK {
			t.Fatalf("Add = %d, %d", n, e)
		}
	}
	if _, e := v.k.Symbols().Add("one more"); e != api.ErrSymbols {
		t.Fatalf("Add = %d", e)
	}
}

// holding is a picture of a new kernel with a global that holds such a thing.
func holding(t *testing.T, words int, x thing) *picture {
	t.Helper()
	w := booted(t, 1000, 100)
	w.acts(global("G"))
	p := pictured(w.save())
	p.room = []int{words, 100, 0}
	p.of(p.objects[api.Root-1].slots[api.RootGlobals]).slots[1] = 4 * (len(p.objects) + 1)
	p.objects = append(p.objects, x)
	return p
}

// P23.3: objects of all lengths, and just the room for them.
func TestSlots(t *testing.T) {
	const bare = 164
	for _, n := range []int{1, 2, 3, 4, 5, 8, 100, 8191, 8192} {
		words := thing{format: "w", class: 4 * api.Array, slots: slices.Repeat([]int{-1}, n)}
		keeps(t, "an Array", holding(t, bare+2+n, words))
		refuses(t, "a word too few", holding(t, bare+1+n, words).text())
		bytes := thing{format: "b", class: 4 * api.String, bytes: strings.Repeat("\xfe", n)}
		keeps(t, "a String", holding(t, bare+2+(n+3)/4, bytes))
		refuses(t, "a word too few", holding(t, bare+1+(n+3)/4, bytes).text())
	}
	refuses(t, "8193 slots", holding(t, 100000, thing{format: "w", class: 4 * api.Array, slots: slices.Repeat([]int{1}, 8193)}).text())
	refuses(t, "8193 bytes", holding(t, 100000, thing{format: "b", class: 4 * api.String, bytes: strings.Repeat("x", 8193)}).text())
	keeps(t, "no bytes", holding(t, bare+2, thing{format: "b", class: 4 * api.String}))
	text := holding(t, 1000, thing{format: "b", class: 4 * api.String, bytes: "a"}).text()
	for _, s := range []string{"b 40 ", "b 40 6", "b 40 616", "b 40 6G", "b 40 6A", "b 40 61 62", "b 40  61", "b 40 61 ", "b", "b ", "b  61", "c 40 61", "W 40", " 40 61", "40 61", "B 40 61", "bb 40 61", "b40 61", "b 40 -1", "w 40", "w", "w ", "", "b 44 61", "w 40 61"} {
		refuses(t, s, replaced(t, text, "b 40 61", s))
	}
	keeps(t, "other bytes", pictured(replaced(t, text, "b 40 61", "b 40 00ff")))
	// Words that are none, at the edges of each kind.
	for _, w := range []int{-1 << 31, -1<<31 - 1, 1 << 31, 1<<31 + 1, 0, -2, -4, 16386, 262148, 4 * 100, 4 * 23, 58 + 4, 1 << 62} {
		refuses(t, fmt.Sprint("the word ", w), holding(t, 1000, thing{format: "w", class: 4 * api.Array, slots: []int{w}}).text())
	}
	for _, w := range []int{-1<<31 + 1, 1<<31 - 1, 4 * 22, 58, 2, 4, 80 - 8} {
		p := holding(t, 1000, thing{format: "w", class: 4 * api.Array, slots: []int{w}})
		keeps(t, fmt.Sprint("the word ", w), p)
	}
}

// P23.3: what is loaded: each object with its number as its oop, one behind the
// other; the root, the mark, and no word kept.
func TestLoaded(t *testing.T) {
	text := rich(t).save()
	p := pictured(text)
	w := load(t, text)
	s := w.k.Space()
	state := s.Heap().State()
	if s.Crowned() != api.Root || len(s.Kept()) != 0 || s.Heap().Marked() != p.room[2] || len(state.Objects) != len(p.objects) {
		t.Fatalf("root %d, kept %d, mark %d, objects %d", s.Crowned(), s.Kept(), s.Heap().Marked(), len(state.Objects))
	}
	used := 0
	for i, o := range state.Objects {
		x := p.objects[i]
		if o.Oop != i+1 || int(o.Class) != x.class || (o.Format == api.FormatBytes) != (x.format == "b") {
			t.Fatalf("the object %d is %+v, want %+v", i+1, o, x)
		}
		var bytes []byte
		for k, slot := range o.Slots {
			if o.Format == api.FormatBytes {
				bytes = append(bytes, byte(slot))
			} else if int(slot) != x.slots[k] {
				t.Fatalf("the object %d is %+v, want %+v", i+1, o, x)
			}
		}
		if string(bytes) != x.bytes || len(o.Slots) != len(x.slots)+len(x.bytes) {
			t.Fatalf("the object %d is %+v, want %+v", i+1, o, x)
		}
		used += 2 + len(x.slots) + (len(x.bytes)+3)/4
	}
	if words, oops := s.Heap().Room(); words != p.room[0]-used || oops != p.room[1]-len(p.objects) {
		t.Fatalf("Room = %d, %d", words, oops)
	}
	if s.Abort() != api.ErrPoint {
		t.Fatal("a bracket is open")
	}
	s.Collect()
	if !slices.EqualFunc(s.Heap().State().Objects, state.Objects, func(a, b api.HeapObject) bool { return a.Oop == b.Oop }) {
		t.Fatal("something was garbage, or lay elsewhere")
	}
}

// P23.1: two kernels that were loaded have nothing in common.
func TestApart(t *testing.T) {
	text := rich(t).save()
	first, second := load(t, text), load(t, text)
	was := second.seen()
	first.acts(global("More"), defines("More2", "P", "m"), lays("P", "more ^#more"), reshapes("P", "y x"), runs(1, 5), marks(3))
	h := first.k.Space().Heap()
	for _, oop := range h.All() {
		h.Put(oop, 0, 4)
	}
	if second.seen() != was || second.save() != text {
		t.Fatal("what was done to one is seen in the other")
	}
	if load(t, text).save() != text {
		t.Fatal("what was done to one is seen in a third")
	}
}

// P23.1: texts of all kinds.
func TestAnyText(t *testing.T) {
	text := booted(t, 160, 20).save()
	for _, s := range []string{
		"", "\n", "\n\n\n", "x", "kiln image 1", "kiln image 1\n", "kiln image 1\nroom\n", "kiln image 1\nroom 1 1 1\nsymbols 0\nobjects 0\nend\n",
		"kiln image 1\nroom 1048576 65536 0\nsymbols 4096\n", "kiln image 1\nroom 1048576 65536 0\nsymbols 0\nobjects 65536\n",
		"kiln image 1\nroom 9 9 0\nsymbols 0\nobjects 1\nw 4\nend\n", "kiln image 1\nroom 9 9 0\nsymbols 0\nobjects 1\nb 4\nend\n",
		strings.Repeat(" ", 1<<24), strings.Repeat("\n", 1<<22), strings.Repeat("9", 1<<22), strings.Repeat(text, 100),
		strings.Replace(text, "w 20\n", "w 20"+strings.Repeat(" 4", 1<<22)+"\n", 1),
		strings.Replace(text, "w 20\n", "w 20"+strings.Repeat(" ", 1<<24)+"\n", 1),
		strings.Replace(text, "w 20\n", "b 20 "+strings.Repeat("00", 1<<22)+"\n", 1),
		strings.Replace(text, "w 20\n", "w "+strings.Repeat("0", 1<<24)+"\n", 1),
		strings.Replace(text, "room 160 20 0", "room"+strings.Repeat(" 1", 1<<22), 1),
		strings.Replace(text, "4f62", strings.Repeat("4f62", 1<<20), 1),
	} {
		refuses(t, "any text", s)
	}
	for i := range text {
		for _, b := range []byte{0, '\n', ' ', '0', '1', '9', '-', 'a', 'w', 'b', 0xff} {
			s := []byte(text)
			if s[i] == b {
				continue
			}
			s[i] = b
			// A room may be another one.
			if k, e := image.Load(string(s)); (e == api.OK) != (k != nil) || e != api.OK && e != api.ErrImage || e == api.OK && !image.Sound(k) {
				t.Fatalf("Load = %v, %d", k != nil, e)
			}
		}
		refuses(t, "a byte less", text[:i]+text[i+1:])
	}
}
