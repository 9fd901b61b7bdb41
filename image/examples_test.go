package image_test

import (
	"slices"
	"strings"
	"testing"

	"kiln/api"
	"kiln/class"
	"kiln/image"
	"kiln/proc"
)

// replaced is a text with one piece, which is there just once, in the place of another.
func replaced(t *testing.T, text, old, new string) string {
	t.Helper()
	if strings.Count(text, old) != 1 {
		t.Fatalf("%q stands %d times in %q", old, strings.Count(text, old), cut(text))
	}
	return strings.Replace(text, old, new, 1)
}

// Examples 1 and 2.
func TestExampleNew(t *testing.T) {
	text := booted(t, 160, 20).save()
	lines := strings.Split(text, "\n")
	if !slices.Equal(lines[:4], []string{"kiln image 1", "room 160 20 0", "symbols 14", "4f626a656374"}) {
		t.Fatalf("it begins with %q", lines[:4])
	}
	if !slices.Equal(lines[17:22], []string{"objects 20", "w 20", "w 24", "w 28", "w 48 2 4 72 72 72 1 3"}) {
		t.Fatalf("the objects begin with %q", lines[17:22])
	}
	if !slices.Equal(lines[35:], []string{"w 44", "w 44 80 72 72 72 4 8 12 4", "w 44 16 20 24 28 32 36 40 44 48 52 56 60 64 68", "end", ""}) {
		t.Fatalf("it ends with %q", lines[35:])
	}
	if got := load(t, text).save(); got != text {
		t.Fatalf("what was loaded says %q", got)
	}
}

// Example 3.
func TestExampleForm(t *testing.T) {
	text := booted(t, 160, 20).save()
	refuses(t, "a blank more", replaced(t, text, "w 44 80", "w 44  80"))
	refuses(t, "a line less", replaced(t, text, "w 24\n", ""))
	refuses(t, "no line feed behind end", strings.TrimSuffix(text, "\n"))
	refuses(t, "too few words", replaced(t, text, "room 160 20 0", "room 159 20 0"))
	refuses(t, "a 0 ahead", replaced(t, text, "room 160 20 0", "room 0160 20 0"))
	load(t, replaced(t, text, "room 160 20 0", "room 1600 20 0"))
}

// chapter is a world with the classes P and Q, methods in falling order of
// their places, a global G, and a process that waits in one of them.
func chapter(t *testing.T) *world {
	t.Helper()
	w := booted(t, 2000, 200)
	w.acts(
		defines("P", "Object", "x y"), defines("Q", "P", "z"), global("G"),
		lays("P", "sum ^x + y"), lays("P", "also ^3"),
		spawns("G := P new. ^G sum"), runs(1, 2),
	)
	return w
}

// index is where the first thing of a class stands, behind so many of them.
func (p *picture) index(class, behind int) int {
	for i, x := range p.objects {
		if x.class != 4*class {
			continue
		}
		if behind == 0 {
			return i
		}
		behind--
	}
	return -1
}

// of is the thing whose word it is.
func (p *picture) of(w int) *thing { return &p.objects[w/4-1] }

// named is the class of that name.
func (p *picture) named(name string) *thing {
	for i := range p.objects {
		x := &p.objects[i]
		if x.class == 4*api.Class && p.symbols[x.slots[api.ClassName]/4] == name {
			return x
		}
	}
	return nil
}

// breaks says that a changed picture breaks a rule and is refused.
func breaks(t *testing.T, what, rule string, p *picture) {
	t.Helper()
	broken := verdict(p)
	if broken == "" || rule != whichever && !strings.HasPrefix(broken, rule) {
		t.Fatalf("%s breaks %q, not %q", what, broken, rule)
	}
	refuses(t, what, p.text())
}

// keeps says that a changed picture is taken, and told again.
func keeps(t *testing.T, what string, p *picture) *world {
	t.Helper()
	text := p.text()
	k, e := image.Load(text)
	if e != api.OK || verdict(p) != "" {
		t.Fatalf("%s: Load = %d, the model says %q", what, e, verdict(p))
	}
	w := over(t, k)
	if !image.Sound(k) || w.save() != text {
		t.Fatalf("%s: it is not sound, or another text", what)
	}
	return w
}

// Example 4.
func TestExampleKernel(t *testing.T) {
	first := chapter(t).save()
	p := pictured(first)
	root := p.objects[api.Root-1].slots
	root[5], root[6] = root[6], root[5]
	breaks(t, "false and true exchanged", "2:", p)
	p = pictured(first)
	p.named("P").slots[api.ClassNumber] = 2*16 + 1
	breaks(t, "the number of another class", "3: number", p)
	p = pictured(first)
	all := p.of(p.objects[api.Root-1].slots[api.RootClasses]).slots
	p.named("P").slots[api.ClassSuper] = all[15]
	breaks(t, "a superclass behind it", "3: superclass", p)
	p = pictured(first)
	own := p.of(p.named("P").slots[api.ClassOwn]).slots
	own[1] = own[0]
	breaks(t, "a field twice", "3: field twice", p)
	p = pictured(first)
	s := p.of(p.named("P").slots[api.ClassSelectors]).slots
	m := p.of(p.named("P").slots[api.ClassMethods]).slots
	slices.Reverse(s)
	slices.Reverse(m)
	breaks(t, "selectors in falling order", "4: selectors", p)
}

// Example 5.
func TestExampleMethod(t *testing.T) {
	w := chapter(t)
	for _, stale := range []bool{false, true} {
		if stale {
			w.acts(reshapes("P", "y x n"))
		}
		for what, change := range map[string]func(p *picture, m *thing){
			"one word more":  func(p *picture, m *thing) { c := p.of(m.slots[api.MethodCode]); c.slots = append(c.slots, 41) },
			"other code":     func(p *picture, m *thing) { p.of(m.slots[api.MethodSource]).bytes = "sum ^y + x" },
			"another source": func(p *picture, m *thing) { p.of(m.slots[api.MethodSource]).bytes = "zum ^x + y" },
			"one blank more": func(p *picture, m *thing) { p.of(m.slots[api.MethodSource]).bytes = "sum  ^x + y" },
		} {
			p := pictured(w.save())
			m := p.method(t, "sum", stale)
			change(p, m)
			if what == "one blank more" || stale && what == "one word more" {
				keeps(t, what, p)
				continue
			}
			// The source is that of the method in the dictionary, too.
			breaks(t, what, "8:", p)
		}
	}
	// A source of its own, which the method in the dictionary has not.
	top, _ := proc.Top(w.k, 1)
	w.put(w.number(top, api.ContextMethod), api.MethodSource, w.str("no source"))
	keeps(t, "another source of a stale method", pictured(w.save()))
}

// method is the one of that selector, which is stale, or is not.
func (p *picture) method(t *testing.T, selector string, stale bool) *thing {
	t.Helper()
	for i := range p.objects {
		m := &p.objects[i]
		if m.class != 4*api.Method || m.slots[0]%4 != 2 || p.symbols[m.slots[0]/4] != selector {
			continue
		}
		if stale == (m.slots[api.MethodLayout] != p.of(m.slots[api.MethodClass]).slots[api.ClassLayout]) {
			return m
		}
	}
	t.Fatalf("no method %q", selector)
	return nil
}

// top is the top context of the process in a place of the Array of processes.
func (p *picture) top(place int) *thing {
	all := p.of(p.objects[api.Root-1].slots[api.RootProcesses]).slots
	return p.of(p.of(all[place]).slots[api.ProcessTop])
}

// Example 6.
func TestExampleProcess(t *testing.T) {
	w := chapter(t)
	w.acts(spawns("^3"))
	first := w.save()
	p := pictured(first)
	top := p.top(0)
	if top.slots[api.ContextPc] != 2*4+1 || top.slots[api.ContextTop] != 2*2+1 {
		t.Fatalf("the top context is %+v", top)
	}
	top.slots[api.ContextPc] = 2*5 + 1
	breaks(t, "in the midst of an instruction", "11: pc", p)
	p = pictured(first)
	top = p.top(0)
	top.slots[api.ContextTop] -= 2
	top.slots[len(top.slots)-1] = 4
	breaks(t, "a top that is one less", "11: pc", p)
	p = pictured(first)
	all := p.of(p.objects[api.Root-1].slots[api.RootProcesses]).slots
	p.of(all[1]).slots[0] = p.of(all[0]).slots[0]
	breaks(t, "two processes with one context", "6: chain", p)
}

// Example 7.
func TestExampleGlobal(t *testing.T) {
	w := chapter(t)
	p := pictured(w.save())
	value := &p.of(p.objects[api.Root-1].slots[api.RootGlobals]).slots[1]
	o := p.of(*value)
	o.slots = append(o.slots, 4)
	breaks(t, "three slots of two fields", "7: instance", p)
	o.slots = o.slots[:2]
	keeps(t, "two slots", p)
	*value = 76
	breaks(t, "a global that holds the root", "12: the root", p)
	p = pictured(w.save())
	p.objects = append(p.objects, thing{format: "b", class: 4 * api.String})
	breaks(t, "an object that nothing names", "13: not reached", p)
}

// Example 8, and kernels that are none.
func TestNone(t *testing.T) {
	refuses(t, "no text", "")
	for _, k := range []*class.Kernel{nil, new(class.Kernel)} {
		if s, e := image.Save(k); s != "" || e != api.ErrNil {
			t.Fatalf("Save = %q, %d", s, e)
		}
		if image.Sound(k) {
			t.Fatal("no kernel is sound")
		}
	}
}
