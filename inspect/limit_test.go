package inspect_test

import (
	"fmt"
	"strings"
	"testing"

	"kiln/api"
)

// lined is an Array of so many new ones, each with its place.
func (w *world) lined(n int) []api.Word {
	list := make([]api.Word, n)
	for i := range list {
		list[i] = w.array(num(i))
	}
	return list
}

// P22.1: one object less than there are labels, as many, and more; integers,
// symbols, nil, booleans and classes take none.
func TestMore(t *testing.T) {
	for n := 1997; n <= 2003; n++ {
		w := booted(t, 20000, 4000)
		list := append([]api.Word{num(1), 2, null, yes, no, obj(api.Array)}, w.lined(n)...)
		w.global("A", num(1))
		w.global("G", w.array(list...))
		want := []string{"A = 1", "G = @1"}
		forms := []string{"1", "#'Object'", "nil", "true", "false", "Array"}
		var objects []string
		for i := range n {
			if i > 1998 {
				forms = append(forms, "@")
				continue
			}
			forms = append(forms, fmt.Sprintf("@%d", i+2))
			objects = append(objects, fmt.Sprintf("@%d Array (%d)", i+2, i))
		}
		want = append(append(want, "@1 Array ("+strings.Join(forms, " ")+")"), objects...)
		if n > 1999 {
			want = append(want, "more")
		}
		w.tells(want...)
	}
}

// P22.1: one without a label has none wherever it is met; one with a label is
// told by it behind the last one, too.
func TestMoreTwice(t *testing.T) {
	w := booted(t, 20000, 4000)
	list := w.lined(2001)
	over := list[2000]
	// The last two with labels are told behind all others.
	w.put(list[1998], 0, over)
	w.put(list[1997], 0, list[0])
	list = append(list, list[5], over)
	first := w.array(list...)
	w.put(over, 0, first)
	w.global("G", first)
	lines := strings.Split(w.text(), "\n")
	if !strings.HasSuffix(lines[1], " @2000 @ @ @7 @)") || lines[1999] != "@1999 Array (@2)" || lines[2000] != "@2000 Array (@)" || lines[2001] != "more" {
		t.Fatalf("the lines are %q", append(lines[1998:], lines[1][len(lines[1])-30:]))
	}
}

// P22.1: a long line of objects, each in the one ahead of it: all but the last
// ones have labels, and only the last of these tells that there is more.
func TestMoreInALine(t *testing.T) {
	for _, n := range []int{1999, 2000, 2001, 60000} {
		w := booted(t, 300000, 65000)
		w.global("G", null)
		last := null
		for range n {
			x, e := w.k.Space().Alloc(obj(api.Array), 1, 0)
			if e != api.OK {
				t.Fatalf("Alloc = %d", e)
			}
			w.put(x, 0, last)
			w.hold(0, x)
			last = x
		}
		want := []string{"G = @1"}
		for i := range min(n, 2000) {
			form := fmt.Sprintf("@%d", i+2)
			if i+1 == n {
				form = "nil"
			} else if i+1 == 2000 {
				form = "@"
			}
			want = append(want, fmt.Sprintf("@%d Array (%s)", i+1, form))
		}
		if n > 2000 {
			want = append(want, "more")
		}
		w.tells(want...)
	}
}

// P22.1: strings, blocks, instances and messages take labels as Arrays do, and
// can be told as @ alone in all of these.
func TestMoreOfAllKinds(t *testing.T) {
	w := booted(t, 40000, 4000)
	p := w.class("P", "Object", "x y")
	s := w.str("over")
	list := []api.Word{w.laid(p, 0, s, num(1)), w.laid(api.Message, 0, 2, s), w.array(s, s)}
	kinds := []string{"String ''", "Block 2", "Object", "Context"}
	want := []string{"G = @1", "", "@2 P x=@ y=1", "@3 Message #'Object' @", "@4 Array (@ @)"}
	for i := len(list); i < 1999; i++ {
		switch i % 4 {
		case 0:
			list = append(list, w.str(""))
		case 1:
			list = append(list, w.laid(api.Block, 0, s, s, s, num(1), num(2), num(2)))
		case 2:
			list = append(list, w.laid(api.Object, 0))
		default:
			list = append(list, w.laid(api.Context, 0, s))
		}
		want = append(want, fmt.Sprintf("@%d %s", i+2, kinds[i%4]))
	}
	var forms []string
	for i := range list {
		forms = append(forms, fmt.Sprintf("@%d", i+2))
	}
	want[1] = "@1 Array (" + strings.Join(forms, " ") + ")"
	w.global("G", w.array(list...))
	w.tells(append(want, "more")...)
	// Where only what is not gone through names it, there is no more.
	w.put(list[0], 0, null)
	w.put(list[1], 1, null)
	w.put(list[2], 0, null)
	w.put(list[2], 1, null)
	want[2], want[3], want[4] = "@2 P x=nil y=1", "@3 Message #'Object' nil", "@4 Array (nil nil)"
	w.tells(want...)
}

// P22.4: a memory that is full of what is told.
func TestFullMemory(t *testing.T) {
	w := booted(t, api.MaxWords, api.MaxOops)
	var rows []api.Word
	for {
		slots := make([]api.Word, 8000)
		for i := range slots {
			slots[i] = num(least + i)
		}
		if words, _ := w.k.Space().Room(); words < 2*8002 {
			break
		}
		rows = append(rows, w.array(slots...))
	}
	w.global("G", w.array(rows...))
	lines := strings.Split(w.text(), "\n")
	if len(lines) != len(rows)+3 || !strings.HasSuffix(lines[len(rows)+1], fmt.Sprintf(" %d)", least+7999)) {
		t.Fatalf("there are %d lines of %d Arrays", len(lines), len(rows))
	}
}
