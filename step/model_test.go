package step_test

import (
	"strings"

	"kiln/api"
	"kiln/parse"
	"kiln/prim"
	"kiln/scope"
)

// The model: it goes through trees, not through code, and has no heap. A value
// is an int, a symbol (sym), nil, a bool, or a pointer to one of the structs
// below.

type (
	val any
	sym string

	// model is a world of the model: its classes by number, its globals by place.
	model struct {
		classes []*mclass
		globals []val
		names   []string // of the globals
		void    *marray  // the one without elements
		events  []string // those that were done, the one that is next behind them
		fuel    int
	}
	mclass struct {
		oop     int
		name    string
		super   *mclass
		own     []string
		methods map[string]*mmethod
	}
	mmethod struct {
		class    *mclass
		selector string
		tree     api.Scoped
		literals map[*api.Bound]val
	}
	mobject struct {
		class *mclass
		slots []val
	}
	marray   struct{ items []val }
	mtext    struct{ bytes []byte }
	mmessage struct {
		selector sym
		args     *marray
	}
	mblock struct {
		node  *api.Bound
		outer *frame
	}
	// frame is a context.
	frame struct {
		method *mmethod
		self   val
		slots  []val
		outer  *frame
		sender *frame
		depth  int
	}
)

// What the going through a tree is left by.
type (
	answered struct {
		home  *frame
		value val
	}
	failure  struct{ ran api.Ran }
	unfueled struct{}
)

func (c *mclass) fields() []string {
	if c.super == nil {
		return c.own
	}
	return append(c.super.fields(), c.own...)
}

// compile is a method of a class; of a doit the class is UndefinedObject. The
// tree is as chapters 8 and 9 have it.
func (m *model) compile(c *mclass, source string, read func(string) (api.Source, api.Fault)) (*mmethod, bool) {
	s, f := read(source)
	if f.Code != api.OK {
		return nil, false
	}
	names := api.Names{Fields: c.fields(), Globals: m.names}
	for _, c := range m.classes {
		names.Classes = append(names.Classes, c.name)
	}
	tree, f := scope.Resolve(s, names)
	return &mmethod{c, s.Selector, tree, map[*api.Bound]val{}}, f.Code == api.OK
}

// run is what a doit comes to with so much fuel.
func (m *model) run(source string, fuel int) (value val, ran api.Ran) {
	m.events, m.fuel = nil, fuel
	do, ok := m.compile(m.classes[1], source, parse.Doit)
	if !ok {
		panic("no doit: " + source)
	}
	defer func() {
		switch x := recover().(type) {
		case nil:
		case failure:
			value, ran = nil, x.ran
			ran.Used = len(m.events)
		case unfueled:
			value, ran = nil, ready(fuel)
		default:
			panic(x)
		}
	}()
	value = m.activate(do, &frame{method: do, slots: make([]val, do.tree.Slots)}, do.tree.Body, nil)
	return value, api.Ran{State: api.Ended, Used: len(m.events)}
}

func fail(code api.Errno) { panic(failure{failed(0, code)}) }

func (m *model) event(told string) {
	m.events = append(m.events, told)
	if len(m.events) > m.fuel {
		panic(unfueled{})
	}
}

// activate goes through the statements of a method or a block.
func (m *model) activate(do *mmethod, f *frame, body []api.Bound, sender *frame) (value val) {
	f.sender, f.depth = sender, 1
	if sender != nil {
		f.depth = sender.depth + 1
	}
	if f.depth > api.MaxContexts {
		fail(api.ErrDeepRun)
	}
	defer func() {
		switch x := recover().(type) {
		case nil:
		case answered:
			if x.home != f {
				panic(x)
			}
			value = x.value
		default:
			panic(x)
		}
	}()
	value = m.statements(f, body)
	if f.outer == nil {
		return f.self
	}
	return value
}

func (m *model) statements(f *frame, list []api.Bound) (value val) {
	for i := range list {
		value = m.eval(f, &list[i])
	}
	return value
}

func (f *frame) at(n *api.Bound) *val {
	for range n.Depth {
		f = f.outer
	}
	return &f.slots[n.Index]
}

func (m *model) variable(f *frame, n *api.Bound) *val {
	switch n.Kind {
	case api.BoundField:
		return &f.self.(*mobject).slots[n.Index]
	case api.BoundGlobal:
		return &m.globals[n.Index]
	}
	return f.at(n)
}

func (m *model) eval(f *frame, n *api.Bound) val {
	switch n.Kind {
	case api.BoundInt:
		return n.Number
	case api.BoundText, api.BoundArray:
		return m.literal(f.method, n)
	case api.BoundSymbol:
		return sym(n.Text)
	case api.BoundNil:
		return nil
	case api.BoundTrue, api.BoundFalse:
		return n.Kind == api.BoundTrue
	case api.BoundSelf:
		return f.self
	case api.BoundField, api.BoundTemp, api.BoundGlobal:
		return *m.variable(f, n)
	case api.BoundClass:
		return m.classes[n.Number-1]
	case api.BoundAssign:
		value := m.eval(f, &n.Kids[1])
		*m.variable(f, &n.Kids[0]) = value
		return value
	case api.BoundSend:
		receiver := m.eval(f, &n.Kids[0])
		return m.send(f, n, receiver, m.all(f, n.Kids[1:]))
	case api.BoundSuper:
		return m.send(f, n, f.self, m.all(f, n.Kids))
	case api.BoundCascade:
		receiver := m.eval(f, &n.Kids[0])
		var value val
		for i := range n.Kids[1:] {
			x := &n.Kids[1+i]
			value = m.send(f, x, receiver, m.all(f, x.Kids))
		}
		return value
	case api.BoundBlock:
		m.event("block")
		return &mblock{n, f}
	case api.BoundReturn:
		return m.answer(f, m.eval(f, &n.Kids[0]))
	}
	return m.control(f, n)
}

func (m *model) all(f *frame, list []api.Bound) []val {
	var values []val
	for i := range list {
		values = append(values, m.eval(f, &list[i]))
	}
	return values
}

// literal is the one object of a place.
func (m *model) literal(do *mmethod, n *api.Bound) val {
	if v, there := do.literals[n]; there {
		return v
	}
	do.literals[n] = m.element(n)
	return do.literals[n]
}

func (m *model) element(n *api.Bound) val {
	switch n.Kind {
	case api.BoundInt:
		return n.Number
	case api.BoundText:
		return &mtext{[]byte(n.Text)}
	case api.BoundSymbol:
		return sym(n.Text)
	case api.BoundTrue, api.BoundFalse:
		return n.Kind == api.BoundTrue
	case api.BoundArray:
		if len(n.Kids) == 0 {
			return m.void
		}
		a := &marray{}
		for i := range n.Kids {
			a.items = append(a.items, m.element(&n.Kids[i]))
		}
		return a
	}
	return nil
}

// answer leaves all frames up to the home.
func (m *model) answer(f *frame, value val) val {
	home := f
	for home.outer != nil {
		home = home.outer
	}
	for at := f; at != nil; at = at.sender {
		if at == home {
			panic(answered{home, value})
		}
	}
	fail(api.ErrHome)
	return nil
}

func condition(v val) bool {
	is, ok := v.(bool)
	if !ok {
		fail(api.ErrBool)
	}
	return is
}

func (m *model) body(f *frame, n *api.Bound) val {
	for _, i := range n.Clear {
		f.slots[i] = nil
	}
	return m.statements(f, n.Kids)
}

// control is the structures that are compiled in place.
func (m *model) control(f *frame, n *api.Bound) val {
	switch n.Kind {
	case api.BoundIf:
		is := condition(m.eval(f, &n.Kids[0]))
		switch n.Number {
		case 1, 2:
			if is == (n.Number == 1) {
				return m.body(f, &n.Kids[1])
			}
			return nil
		case 3, 4:
			if is == (n.Number == 3) {
				return m.body(f, &n.Kids[1])
			}
			return m.body(f, &n.Kids[2])
		}
		if is == (n.Number == 5) {
			return m.body(f, &n.Kids[1])
		}
		return is
	case api.BoundWhile:
		for condition(m.body(f, &n.Kids[0])) == (n.Number == 1) {
			m.body(f, &n.Kids[1])
			m.event("jump")
		}
		return nil
	}
	from, ok := m.eval(f, &n.Kids[0]).(int)
	to, also := m.eval(f, &n.Kids[1]).(int)
	if !ok || !also {
		fail(api.ErrPrim)
	}
	f.slots[n.Index] = from
	for from <= to {
		m.body(f, &n.Kids[2])
		if f.slots[n.Index] == to {
			break
		}
		m.event("jump")
		f.slots[n.Index] = f.slots[n.Index].(int) + 1
	}
	return nil
}

func (m *model) of(v val) *mclass {
	oop := 0
	switch x := v.(type) {
	case nil:
		oop = api.UndefinedObject
	case bool:
		oop = api.FalseClass
		if x {
			oop = api.TrueClass
		}
	case int:
		oop = api.Integer
	case sym:
		oop = api.Symbol
	case *mtext:
		oop = api.String
	case *marray:
		oop = api.Array
	case *mblock:
		oop = api.Block
	case *mmessage:
		oop = api.Message
	case *mclass:
		oop = api.Class
	case *mobject:
		return x.class
	}
	return m.classes[oop-api.Object]
}

func (m *model) send(f *frame, n *api.Bound, receiver val, args []val) val {
	class, told := m.of(receiver), "send "
	if n.Kind == api.BoundSuper {
		class, told = f.method.class.super, "super "
	}
	m.event(told + n.Text)
	for c := class; c != nil; c = c.super {
		if do := c.methods[n.Text]; do != nil {
			return m.call(do, f, receiver, args)
		}
		if !prim.Has(c.oop, n.Text) {
			continue
		}
		if c.oop == api.Block && strings.HasPrefix(n.Text, "value") {
			return m.value(f, receiver.(*mblock), args)
		}
		return m.primitive(c.oop, n.Text, receiver, args)
	}
	for c := m.of(receiver); c != nil; c = c.super {
		if do := c.methods["doesNotUnderstand:"]; do != nil && n.Text != "doesNotUnderstand:" {
			list := m.void
			if len(args) > 0 {
				list = &marray{args}
			}
			return m.call(do, f, receiver, []val{&mmessage{sym(n.Text), list}})
		}
	}
	panic(failure{unknown(0, n.Text)})
}

func (m *model) call(do *mmethod, sender *frame, receiver val, args []val) val {
	slots := make([]val, do.tree.Slots)
	copy(slots, args)
	return m.activate(do, &frame{method: do, self: receiver, slots: slots}, do.tree.Body, sender)
}

func (m *model) value(sender *frame, b *mblock, args []val) val {
	if b.node.Params != len(args) {
		fail(api.ErrPrim)
	}
	slots := make([]val, b.node.Slots)
	copy(slots, args)
	f := &frame{method: b.outer.method, self: b.outer.self, slots: slots, outer: b.outer}
	return m.activate(f.method, f, b.node.Kids, sender)
}
