package kiln_test

import (
	"iter"

	"kiln/api"
	"kiln/prim"
)

// A process is a tree machine: it goes through the trees of methods, and stands
// still ahead of each event.

type (
	// names is the names of a body: of a method or block that runs, or of a
	// block that is compiled in place, within those of what it stands in.
	names struct {
		cells map[string]*val
		up    *names
	}
	frame struct {
		method *mmethod
		self   val
		base   *names
		inner  map[int]*names // of the blocks in place, by where they stand
		outer  *frame
		sender *frame
		depth  int
	}
	mprocess struct {
		world *model
		top   *frame
		state int
		code  api.Errno
		what  string // that was not understood
		value val
		next  func() (string, bool)
		stop  func()
		event string // ahead of which it stands
		begun bool
	}

	// What the going through a tree is left by.
	answered struct {
		home  *frame
		value val
	}
	closed struct{}
)

func newProcess(m *model, doit *mmethod) *mprocess {
	p := &mprocess{world: m, state: api.Ready}
	p.top = newFrame(doit, nil, nil, nil)
	// Its first instruction may be an event.
	if doit.code.Words[0] == api.OpBlock {
		p.event = "block"
	}
	p.next, p.stop = iter.Pull(p.events)
	return p
}

func (p *mprocess) close() { p.stop() }

// stale tells whether it stands on a method of another layout.
func (p *mprocess) stale() bool {
	for f := p.top; f != nil; f = f.sender {
		for g := f; g != nil; g = g.outer {
			if g.method.stale() {
				return true
			}
		}
	}
	return false
}

// ready is what stands ahead of it; "" of one that is stale.
func (p *mprocess) ready() string {
	if p.stale() {
		return ""
	}
	return p.event
}

// run does so many events.
func (p *mprocess) run(fuel int) api.Answer {
	used := 0
	if p.stale() {
		p.over(api.Failed, api.ErrStale, "")
	} else if !p.begun {
		p.begun = true
		p.goOn()
	}
	for ; p.state == api.Ready && used < fuel; used++ {
		if m := p.world; m.ahead != nil && m.at == len(m.tape) {
			m.ahead(p.event)
		}
		p.world.settle()
		p.goOn()
	}
	answer := api.Answer{State: p.state, Used: used}
	switch p.state {
	case api.Failed:
		answer.Code, answer.Selector = p.code, p.what
	case api.Ended:
		answer.Text = p.world.brief(p.value)
	}
	return answer
}

// goOn does what stands ahead, up to the next event.
func (p *mprocess) goOn() { p.event, _ = p.next() }

func (p *mprocess) over(state int, e api.Errno, what string) {
	p.state, p.code, p.what = state, e, what
	for f := p.top; f != nil; {
		f, f.sender = f.sender, nil
	}
	p.top, p.event = nil, ""
}

// events is the whole life of a process; it stands still at each of its events.
func (p *mprocess) events(yield func(string) bool) {
	defer func() {
		switch x := recover().(type) {
		case nil, closed:
		case failure:
			p.over(api.Failed, x.Code, x.Selector)
		default:
			panic(x)
		}
	}()
	m := &machine{p, yield}
	p.value = m.activate(p.top, p.top.method.tree.Body)
	p.over(api.Ended, api.OK, "")
}

// machine is a process that goes on.
type machine struct {
	*mprocess
	yield func(string) bool
}

func (m *machine) ahead(event string) {
	if !m.yield(event) {
		panic(closed{})
	}
}

func newFrame(d *mmethod, self val, outer *frame, up *names) *frame {
	f := &frame{method: d, self: self, outer: outer, inner: map[int]*names{}, depth: 1}
	list := d.tree.Names
	if outer != nil {
		list = nil
	}
	f.base = newNames(list, up)
	return f
}

func newNames(list []string, up *names) *names {
	n := &names{map[string]*val{}, up}
	for _, s := range list {
		n.cells[s] = new(val)
	}
	return n
}

// activate goes through the statements of a method or of a block.
func (m *machine) activate(f *frame, body []api.Node) (value val) {
	m.top = f
	defer func() {
		x := recover()
		home, left := x.(answered)
		if x != nil && !left {
			panic(x)
		}
		m.top, f.sender = f.sender, nil
		if left && home.home != f {
			panic(x)
		}
		if left {
			value = home.value
		}
	}()
	value = m.statements(f, f.base, body)
	if f.outer == nil {
		return f.self
	}
	return value
}

func (m *machine) statements(f *frame, n *names, list []api.Node) (value val) {
	for i := range list {
		value = m.eval(f, n, &list[i])
	}
	return value
}

// cell is where a variable's value is.
func (m *machine) cell(f *frame, n *names, name string) *val {
	for ; n != nil; n = n.up {
		if c := n.cells[name]; c != nil {
			return c
		}
	}
	return m.world.values[name]
}

func isField(f *frame, n *names, name string) bool {
	for ; n != nil; n = n.up {
		if n.cells[name] != nil {
			return false
		}
	}
	o, ok := f.self.(*mobject)
	if !ok {
		return false
	}
	_, there := o.fields[name]
	return there
}

func (m *machine) eval(f *frame, n *names, x *api.Node) val {
	switch x.Kind {
	case api.NodeInt:
		return x.Number
	case api.NodeText, api.NodeArray:
		if _, there := f.method.literals[x.At]; !there {
			f.method.literals[x.At] = m.element(x)
		}
		return f.method.literals[x.At]
	case api.NodeSymbol, api.NodeConst:
		return m.element(x)
	case api.NodeName:
		return m.named(f, n, x.Text)
	case api.NodeAssign:
		value := m.eval(f, n, &x.Kids[0])
		if isField(f, n, x.Text) {
			f.self.(*mobject).fields[x.Text] = value
		} else {
			*m.cell(f, n, x.Text) = value
		}
		return value
	case api.NodeSend:
		return m.message(f, n, x)
	case api.NodeCascade:
		return m.cascade(f, n, x)
	case api.NodeBlock:
		m.ahead("block")
		m.world.alloc(2 + 6)
		return &mblock{x, n, f}
	case api.NodeReturn:
		return m.answer(f, m.eval(f, n, &x.Kids[0]))
	}
	panic("the model has no such node")
}

func (m *machine) named(f *frame, n *names, name string) val {
	if name == "self" {
		return f.self
	}
	if isField(f, n, name) {
		return f.self.(*mobject).fields[name]
	}
	if c := m.cell(f, n, name); c != nil {
		return *c
	}
	return m.world.class(name)
}

func (m *machine) element(x *api.Node) val {
	switch x.Kind {
	case api.NodeInt:
		return x.Number
	case api.NodeText:
		return &mtext{[]byte(x.Text)}
	case api.NodeSymbol:
		return sym(x.Text)
	case api.NodeConst:
		return map[string]val{"true": true, "false": false}[x.Text]
	}
	if len(x.Kids) == 0 {
		return m.world.void
	}
	a := &marray{}
	for i := range x.Kids {
		a.items = append(a.items, m.element(&x.Kids[i]))
	}
	return a
}

// answer leaves all frames up to the home.
func (m *machine) answer(f *frame, value val) val {
	home := f
	for home.outer != nil {
		home = home.outer
	}
	for at := m.top; at != nil; at = at.sender {
		if at == home {
			panic(answered{home, value})
		}
	}
	fail(api.ErrHome)
	return nil
}

func (m *machine) all(f *frame, n *names, list []api.Node) []val {
	var values []val
	for i := range list {
		values = append(values, m.eval(f, n, &list[i]))
	}
	return values
}

func (m *machine) message(f *frame, n *names, x *api.Node) val {
	if isInPlace(x) {
		return m.inPlace(f, n, x)
	}
	if x.Kids[0].Kind == api.NodeSuper {
		args := m.all(f, n, x.Kids[1:])
		return m.send(f, "super ", f.method.class.super, x.Text, f.self, args)
	}
	receiver := m.eval(f, n, &x.Kids[0])
	args := m.all(f, n, x.Kids[1:])
	return m.send(f, "send ", m.world.of(receiver), x.Text, receiver, args)
}

func (m *machine) cascade(f *frame, n *names, x *api.Node) (value val) {
	receiver, told := f.self, "super "
	if x.Kids[0].Kind != api.NodeSuper {
		receiver, told = m.eval(f, n, &x.Kids[0]), "send "
	}
	for i := range x.Kids[1:] {
		y := &x.Kids[1+i]
		args := m.all(f, n, y.Kids)
		class := f.method.class.super
		if told == "send " {
			class = m.world.of(receiver)
		}
		value = m.send(f, told, class, y.Text, receiver, args)
	}
	return value
}

// isBlock tells whether a node is a block with so many parameters.
func isBlock(x *api.Node, params int) bool { return x.Kind == api.NodeBlock && x.Number == params }

// isInPlace tells whether a send is no message, but compiled in place.
func isInPlace(x *api.Node) bool {
	if x.Kids[0].Kind == api.NodeSuper {
		return false
	}
	switch x.Text {
	case "ifTrue:", "ifFalse:", "and:", "or:":
		return isBlock(&x.Kids[1], 0)
	case "ifTrue:ifFalse:", "ifFalse:ifTrue:":
		return isBlock(&x.Kids[1], 0) && isBlock(&x.Kids[2], 0)
	case "whileTrue:", "whileFalse:":
		return isBlock(&x.Kids[0], 0) && isBlock(&x.Kids[1], 0)
	case "to:do:":
		return isBlock(&x.Kids[2], 1)
	}
	return false
}

// within is the names of a block in place; its temporaries are nil at its beginning.
func within(f *frame, n *names, block *api.Node) *names {
	if f.inner[block.At] == nil {
		f.inner[block.At] = newNames(block.Names, n)
	}
	in := f.inner[block.At]
	for _, s := range block.Names[block.Number:] {
		*in.cells[s] = nil
	}
	return in
}

func (m *machine) body(f *frame, n *names, block *api.Node) val {
	return m.statements(f, within(f, n, block), block.Kids)
}

func condition(v val) bool {
	is, ok := v.(bool)
	failIf(!ok, api.ErrBool)
	return is
}

func (m *machine) inPlace(f *frame, n *names, x *api.Node) val {
	switch x.Text {
	case "whileTrue:", "whileFalse:":
		for condition(m.body(f, n, &x.Kids[0])) == (x.Text == "whileTrue:") {
			m.body(f, n, &x.Kids[1])
			m.ahead("jump")
		}
		return nil
	case "to:do:":
		return m.toDo(f, n, x)
	}
	is := condition(m.eval(f, n, &x.Kids[0]))
	switch {
	case x.Text == "and:" && !is, x.Text == "or:" && is:
		return is
	case x.Text == "and:", x.Text == "or:":
		return m.body(f, n, &x.Kids[1])
	case is == (x.Text == "ifTrue:" || x.Text == "ifTrue:ifFalse:"):
		return m.body(f, n, &x.Kids[1])
	case len(x.Kids) == 3:
		return m.body(f, n, &x.Kids[2])
	}
	return nil
}

func (m *machine) toDo(f *frame, n *names, x *api.Node) val {
	from, ok := m.eval(f, n, &x.Kids[0]).(int)
	to, also := m.eval(f, n, &x.Kids[1]).(int)
	failIf(!ok || !also, api.ErrPrim)
	block := &x.Kids[2]
	i := within(f, n, block).cells[block.Names[0]]
	*i = from
	for from <= to {
		m.body(f, n, block)
		if *i == to {
			break
		}
		m.ahead("jump")
		*i = (*i).(int) + 1
	}
	return nil
}

func (m *model) of(v val) *mclass {
	n := nUndefined
	switch x := v.(type) {
	case bool:
		n = nFalse
		if x {
			n = nTrue
		}
	case int:
		n = nInteger
	case sym:
		n = nSymbol
	case *mtext:
		n = nString
	case *marray:
		n = nArray
	case *mblock:
		n = nBlock
	case *mmessage:
		n = nMessage
	case *mclass:
		n = nClass
	case *mobject:
		return x.class
	}
	return m.classes[n-1]
}

func (m *machine) send(f *frame, told string, class *mclass, selector string, receiver val, args []val) val {
	m.ahead(told + selector)
	for c := class; c != nil; c = c.super {
		if d := c.methods[selector]; d != nil {
			return m.call(d, receiver, args)
		}
		// The kernel's classes have their numbers and their oops in one order.
		oop := c.number + api.Object - 1
		if c.number > nMessage || !prim.Has(oop, selector) {
			continue
		}
		if b, ok := receiver.(*mblock); ok && c.number == nBlock && selector != "numArgs" {
			return m.valueOf(b, args)
		}
		return m.primitive(c.number, selector, receiver, args)
	}
	return m.notUnderstood(selector, receiver, args)
}

func (m *machine) notUnderstood(selector string, receiver val, args []val) val {
	const last = "doesNotUnderstand:"
	for c := m.world.of(receiver); c != nil && selector != last; c = c.super {
		if d := c.methods[last]; d != nil {
			failIf(m.top.depth == api.MaxContexts, api.ErrDeepRun)
			m.world.array(len(args))
			m.world.alloc(2 + 2)
			list := m.world.void
			if len(args) > 0 {
				list = &marray{args}
			}
			return m.call(d, receiver, []val{&mmessage{sym(selector), list}})
		}
	}
	panic(failure{api.Refusal{Code: api.ErrUnderstood, Selector: selector}})
}

// enter makes a frame the top one.
func (m *machine) enter(f *frame, temps int) *frame {
	failIf(m.top.depth == api.MaxContexts, api.ErrDeepRun)
	m.world.alloc(f.method.takes(temps))
	f.sender, f.depth = m.top, m.top.depth+1
	return f
}

func (m *machine) call(d *mmethod, receiver val, args []val) val {
	f := newFrame(d, receiver, nil, nil)
	for i, v := range args {
		*f.base.cells[d.tree.Names[i]] = v
	}
	return m.activate(m.enter(f, d.code.Temps), d.tree.Body)
}

// valueOf activates a block.
func (m *machine) valueOf(b *mblock, args []val) val {
	failIf(b.node.Number != len(args), api.ErrPrim)
	failIf(b.outer.method.stale(), api.ErrStale)
	f := newFrame(b.outer.method, b.outer.self, b.outer, b.names)
	f.base = newNames(b.node.Names, b.names)
	for i, v := range args {
		*f.base.cells[b.node.Names[i]] = v
	}
	return m.activate(m.enter(f, slots(b.node)), b.node.Kids)
}

// slots is how many names a block has, with those of the blocks in place in it.
func slots(block *api.Node) int {
	n := len(block.Names)
	for i := range block.Kids {
		n += inner(&block.Kids[i])
	}
	return n
}

// inner is how many names the blocks in place have that a node has.
func inner(x *api.Node) int {
	if x.Kind == api.NodeBlock {
		return 0
	}
	n := 0
	for i := range x.Kids {
		if x.Kind == api.NodeSend && isInPlace(x) && isPart(x, i) {
			n += slots(&x.Kids[i])
		} else {
			n += inner(&x.Kids[i])
		}
	}
	return n
}

// isPart tells whether a kid of a send in place is one of its blocks in place:
// the receiver of an if and the first argument of a to:do: are none.
func isPart(x *api.Node, i int) bool {
	switch x.Text {
	case "whileTrue:", "whileFalse:":
		return true
	case "to:do:":
		return i == 2
	}
	return i > 0
}
