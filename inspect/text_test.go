package inspect_test

import (
	"fmt"
	"strconv"
	"strings"
	"testing"

	"kiln/api"
	"kiln/class"
	"kiln/context"
	"kiln/inspect"
	"kiln/method"
	"kiln/proc"
)

// P22.1: a kernel that is nil, or that no call made; one that was copied is such, too.
func TestTextNil(t *testing.T) {
	w := booted(t, 1000, 100)
	w.global("G", num(1))
	copied := *w.k
	for _, k := range []*class.Kernel{nil, {}, &copied} {
		if s, e := inspect.Text(k); s != "" || e != api.ErrNil {
			t.Fatalf("Text = %q, %d", s, e)
		}
	}
	w.tells("G = 1")
}

// P22.1: integers, up to the last ones.
func TestIntegers(t *testing.T) {
	w := booted(t, 1000, 100)
	w.global("G", null)
	for _, n := range []int{0, 1, -1, 9, 10, -10, 255, 1234567, most, most - 1, least, least + 1} {
		w.form(num(n), strconv.Itoa(n))
	}
}

// P22.1: nil, false, true, and nothing else of their kinds.
func TestConstants(t *testing.T) {
	w := booted(t, 1000, 100)
	w.global("G", null)
	w.form(null, "nil")
	w.form(no, "false")
	w.form(yes, "true")
	w.hold(0, w.laid(api.UndefinedObject, 0))
	w.tells("G = @1", "@1 UndefinedObject")
}

// P22.1: symbols, each byte written; one that the table has not.
func TestSymbols(t *testing.T) {
	w := booted(t, 2000, 100)
	w.global("G", null)
	for text, want := range map[string]string{
		"foo": "'foo'", "+": "'+'", "//": "'//'", `\\`: `'\\\\'`, "at:put:": "'at:put:'", "'": `'\''`, " ": "' '",
		"#": "'#'", "@1": "'@1'", "nil": "'nil'", "a\x00": `'a\x00'`, "\xff": `'\xff'`, "é": `'\xc3\xa9'`, "\n": `'\x0a'`,
		strings.Repeat("a", 96): "'" + strings.Repeat("a", 96) + "'",
	} {
		w.form(w.symbol(text), "#"+want)
	}
	w.form(2, "#'Object'")
	w.form(api.Word(4*w.k.Symbols().Count()+2), "#")
	w.form(16382, "#")
}

// written is bytes as the chapter has them written.
func written(text string) string {
	list := []string{"'"}
	for _, c := range []byte(text) {
		switch {
		case c == 39 || c == 92:
			list = append(list, "\\"+string(rune(c)))
		case c >= 32 && c <= 126:
			list = append(list, string(rune(c)))
		default:
			list = append(list, fmt.Sprintf("\\x%02x", c))
		}
	}
	return strings.Join(append(list, "'"), "")
}

// P22.1: each byte of a symbol and of a string.
func TestBytes(t *testing.T) {
	w := booted(t, 8000, 600)
	w.global("G", null)
	var all []byte
	for c := range 256 {
		all = append(all, byte(c))
		one := string(all[c:])
		w.form(w.symbol(one), "#"+written(one))
		s := w.str(one)
		w.hold(0, s)
		w.tells("G = @1", "@1 String "+written(one))
		w.value(s, written(one))
		w.k.Space().Drop(1)
	}
	w.hold(0, w.str(string(all)))
	w.tells("G = @1", "@1 String "+written(string(all)))
	for i := 0; i+api.MaxSelector <= len(all); i += 32 {
		text := string(all[i : i+api.MaxSelector])
		w.form(w.symbol(text), "#"+written(text))
	}
}

// P22.1: strings of no byte, and of as many as there can be.
func TestStrings(t *testing.T) {
	w := booted(t, 8000, 100)
	w.global("G", w.str(""))
	w.tells("G = @1", "@1 String ''")
	w.hold(0, w.str(strings.Repeat("ab\n", 2730)+"zz"))
	w.tells("G = @1", "@1 String '"+strings.Repeat(`ab\x0a`, 2730)+"zz'")
	s := w.str("same")
	w.hold(0, w.array(s, w.str("same"), s))
	w.tells("G = @1", "@1 Array (@2 @3 @2)", "@2 String 'same'", "@3 String 'same'")
}

// P22.1: a class is told by its name, has no label, and is not gone through.
func TestClasses(t *testing.T) {
	w := booted(t, 2000, 200)
	w.global("G", null)
	for n := 1; n <= 14; n++ {
		oop, _ := w.k.Numbered(n)
		i, _ := w.k.Info(oop)
		w.form(obj(oop), i.Name)
	}
	for _, name := range []string{"P", "X1", "A" + strings.Repeat("b", 31)} {
		c := w.class(name, "Object", "x")
		w.method(c, "foo ^'text'")
		w.form(obj(c), name)
	}
}

// P22.1: one class less, and it is told still, if something names it.
func TestClassThatWasRefused(t *testing.T) {
	w := booted(t, 2000, 200)
	w.global("G", null)
	w.symbol("Lost")
	w.k.Space().Heap().Mark(2)
	if _, e := w.k.Define("Lost", "Object", nil); e != api.ErrMarked {
		t.Fatalf("Define = %d", e)
	}
	all := w.k.Space().Heap().All()
	lost := all[len(all)-1]
	if c, _ := w.k.Of(obj(lost)); c != api.Class {
		t.Fatalf("the last object is of %d", c)
	}
	w.form(obj(lost), "Lost")
	o := w.laid(lost, 0, num(1))
	w.hold(0, o)
	w.tells("G = @1", "@1 Lost 1=1")
	w.value(o, "a Lost")
}

// P22.1: arrays in arrays, rings, and one of as many slots as there can be.
func TestArrays(t *testing.T) {
	w := booted(t, 20000, 200)
	w.global("G", empty)
	w.global("H", empty)
	w.tells("G = @1", "H = @1", "@1 Array ()")
	a, b := w.array(null, num(1)), w.array(null)
	w.put(a, 0, b)
	w.put(b, 0, a)
	w.hold(0, a)
	w.tells("G = @1", "H = @2", "@1 Array (@3 1)", "@2 Array ()", "@3 Array (@1)")
	w.hold(1, b)
	w.tells("G = @1", "H = @2", "@1 Array (@2 1)", "@2 Array (@1)")
	wide := make([]api.Word, api.MaxSlots)
	for i := range wide {
		wide[i] = yes
	}
	w.hold(0, w.array(wide...))
	w.hold(1, null)
	w.tells("G = @1", "H = nil", "@1 Array ("+strings.Repeat("true ", api.MaxSlots-1)+"true)")
	w.hold(0, w.array(num(-1), 2, null, yes, no, obj(api.Array), empty, w.str(" ")))
	w.tells("G = @1", "H = nil", "@1 Array (-1 #'Object' nil true false Array @2 @3)", "@2 Array ()", "@3 String ' '")
}

// P22.1: instances, by the fields of the superclasses first.
func TestInstances(t *testing.T) {
	w := booted(t, 4000, 200)
	p, q := w.class("P", "Object", "x y"), w.class("Q", "P", "z")
	r, s := w.class("R", "Q", ""), w.class("S", "R", "a9 "+strings.Repeat("b", 32))
	w.global("G", w.laid(api.Object, 0))
	w.tells("G = @1", "@1 Object")
	w.hold(0, w.laid(p, 0, num(1), null))
	w.tells("G = @1", "@1 P x=1 y=nil")
	w.hold(0, w.laid(q, 0, num(1), null, yes))
	w.tells("G = @1", "@1 Q x=1 y=nil z=true")
	w.hold(0, w.laid(r, 0, obj(r), 16382, yes))
	w.tells("G = @1", "@1 R x=R y=# z=true")
	x := w.laid(s, 0, w.str("x"), empty, null, no, num(-7))
	w.put(x, 2, x)
	w.hold(0, x)
	w.tells("G = @1", "@1 S x=@2 y=@3 z=@1 a9=false "+strings.Repeat("b", 32)+"=-7", "@2 String 'x'", "@3 Array ()")
}

// P22.1: slots for which there are no fields, and fields for which there are no slots.
func TestSlotsWithoutFields(t *testing.T) {
	w := booted(t, 4000, 200)
	p := w.class("P", "Object", "x y")
	w.global("G", w.laid(p, 0, num(1), num(2), num(3), w.str("four")))
	w.tells("G = @1", "@1 P x=1 y=2 3=3 4=@2", "@2 String 'four'")
	w.hold(0, w.laid(p, 0, num(1)))
	w.tells("G = @1", "@1 P x=1")
	w.hold(0, w.laid(p, 0))
	w.tells("G = @1", "@1 P")
	w.hold(0, w.laid(api.Object, 0, num(5), empty))
	w.tells("G = @1", "@1 Object 1=5 2=@2", "@2 Array ()")
	w.hold(0, w.laid(api.Integer, 0, num(5)))
	w.tells("G = @1", "@1 Integer 1=5")
	slots, want := make([]api.Word, 12), ""
	for i := range slots {
		slots[i] = num(i * i)
		want += " " + strconv.Itoa(i+1) + "=" + strconv.Itoa(i*i)
	}
	w.hold(0, w.laid(api.Symbol, 0, slots...))
	w.tells("G = @1", "@1 Symbol"+want)
}

// P22.1: blocks, of which nothing is told but how many parameters they have.
func TestBlocks(t *testing.T) {
	w := booted(t, 8000, 400)
	w.global("G", null)
	for n := 0; n <= api.MaxArgs; n++ {
		var head strings.Builder
		for i := range n {
			head.WriteString(":p" + strconv.Itoa(i) + " ")
		}
		if n > 0 {
			head.WriteString("| ")
		}
		x := w.run("| t | t := 'not told'. G := [" + head.String() + "| a b c | t]. ^G")
		w.tells("G = @1", "@1 Block "+strconv.Itoa(n))
		w.value(x, "a Block")
	}
	s := w.str("not told")
	w.hold(0, w.laid(api.Block, 0, s, s, s, num(7), num(-3), num(9)))
	w.tells("G = @1", "@1 Block -3")
}

// P22.1: methods, contexts and processes, of which nothing more is told, and
// which are not gone through.
func TestMachinery(t *testing.T) {
	w := booted(t, 8000, 400)
	w.global("G", null)
	m, _ := method.Compile(w.k, api.Object, "foo ^'text'")
	w.hold(0, obj(m))
	w.tells("G = @1", "@1 Method")
	c, _ := context.New(w.k, api.ContextInfo{Sender: null, Method: obj(m), Receiver: w.str("r"), Outer: null, Temps: 1, Stack: 2}, []api.Word{w.str("t")})
	w.hold(0, obj(c))
	w.tells("G = @1", "@1 Context")
	proc.Spawn(w.k, "^3 + 4")
	all, _ := w.k.Space().Root(api.RootProcesses)
	w.hold(0, all)
	w.tells("G = @1", "@1 Array (@2)", "@2 Process")
	p, _ := w.k.Space().Heap().At(int(all)/4, 0)
	w.value(obj(m), "a Method")
	w.value(obj(c), "a Context")
	w.value(p, "a Process")
	w.hold(0, w.array(p, obj(c), obj(m), obj(c), p))
	w.tells("G = @1", "@1 Array (@2 @3 @4 @3 @2)", "@2 Process", "@3 Context", "@4 Method")
}

// P22.1: messages, slot by slot.
func TestMessages(t *testing.T) {
	w := booted(t, 8000, 400)
	w.global("G", null)
	p := w.class("P", "Object", "")
	w.method(p, "doesNotUnderstand: m G := m")
	w.run("P new foo")
	w.tells("G = @1", "@1 Message #'foo' @2", "@2 Array ()")
	w.run("P new at: 3 put: 'x'")
	w.tells("G = @1", "@1 Message #'at:put:' @2", "@2 Array (3 @3)", "@3 String 'x'")
	w.run("P new + G")
	w.tells("G = @1", "@1 Message #'+' @2", "@2 Array (@3)", "@3 Message #'at:put:' @4", "@4 Array (3 @5)", "@5 String 'x'")
	w.hold(0, w.laid(api.Message, 0, num(1), null, yes))
	w.tells("G = @1", "@1 Message 1 nil true")
}

// P22.1: as many globals as there can be, in the order of their definition.
func TestGlobals(t *testing.T) {
	w := booted(t, 100000, 2000)
	var lines, objects []string
	for i := range api.MaxGlobals {
		name := "G" + strconv.Itoa((i*37)%256)
		switch i % 3 {
		case 0:
			w.global(name, w.str(name))
			objects = append(objects, fmt.Sprintf("@%d String '%s'", len(objects)+1, name))
			lines = append(lines, fmt.Sprintf("%s = @%d", name, len(objects)))
		case 1:
			w.global(name, num(i))
			lines = append(lines, fmt.Sprintf("%s = %d", name, i))
		default:
			x, _ := w.k.Value(i - 2)
			w.global(name, x)
			lines = append(lines, fmt.Sprintf("%s = @%d", name, len(objects)))
		}
	}
	w.tells(append(lines, objects...)...)
}

// What has slots of the other format than its class asks for: bytes are told as numbers.
func TestOtherFormats(t *testing.T) {
	w := booted(t, 4000, 200)
	p := w.class("P", "Object", "x y")
	w.global("G", w.laid(api.Array, api.FormatBytes, 4, 255, 0))
	w.tells("G = @1", "@1 Array (4 255 0)")
	w.hold(0, w.laid(p, api.FormatBytes, 8, 9, 10))
	w.tells("G = @1", "@1 P x=8 y=9 3=10")
	w.hold(0, w.laid(api.Block, api.FormatBytes, 1, 2, 3, 4, 5))
	w.tells("G = @1", "@1 Block 5")
	s := w.laid(api.String, 0, num(65), w.str("in it"))
	w.hold(0, s)
	w.tells("G = @1", "@1 String 1=65 2=@2", "@2 String 'in it'")
	w.value(s, "a String")
}
