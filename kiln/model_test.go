package kiln_test

import (
	"maps"
	"regexp"
	"slices"

	"kiln/api"
	"kiln/gen"
	"kiln/parse"
	"kiln/scope"
	"kiln/symbol"
)

// The model: objects are maps from the names of fields to values, classes lists
// of names, methods the trees of their sources, processes tree machines. It has
// no heap, no oops, no bytes of code. A value is an int, a symbol (sym), nil, a
// bool, or a pointer to one of the structs below.

type (
	val any
	sym string

	mclass struct {
		number  int
		name    string
		super   *mclass
		own     []string
		methods map[string]*mmethod
		layout  int
	}
	mmethod struct {
		class    *mclass
		source   string
		tree     api.Source
		layout   int
		code     api.Code    // how long it is, and what its literals take
		literals map[int]val // by their places in the source
	}
	mobject struct {
		class  *mclass
		fields map[string]val
	}
	marray   struct{ items []val }
	mtext    struct{ bytes []byte }
	mmessage struct {
		selector sym
		args     *marray
	}
	mblock struct {
		node  *api.Node
		names *names
		outer *frame
	}

	// model is the whole. What stands on its tape is what it was told: how each
	// allocation went, and how many instances a reshape found. With a tape that
	// is there already all goes as it went.
	model struct {
		symbols   *symbol.Table
		classes   []*mclass
		globals   []string
		values    map[string]*val
		processes []*mprocess
		objects   []*mobject
		void      *marray // the Array without elements
		mark      int

		room      func() (words, oops int) // what is free ahead of an act or event; nil: there is always room
		instances func(number int) int     // how many instances of a class are reached
		ahead     func(event string)       // is called ahead of each event
		words     int                      // what is left of the room
		oops      int

		acts []api.Act
		tape []int
		at   int // of the tape, where it is read; at its end it is written
		last string
		past map[string]recorded // by the images' texts
	}

	// recorded is the acts that led to an image, and their tape.
	recorded struct {
		acts []api.Act
		tape []int
	}

	// failure is what an act is refused by, or what a process fails by.
	failure struct{ api.Refusal }
)

// The numbers of the kernel's classes.
const (
	nObject = 1 + iota
	nUndefined
	nFalse
	nTrue
	nInteger
	nSymbol
	nString
	nArray
	nClass
	nMethod
	nBlock
	nContext
	nProcess
	nMessage
)

func newModel() *model {
	m := &model{values: map[string]*val{}, void: &marray{}, past: map[string]recorded{}}
	m.symbols, _ = symbol.New(api.MaxSymbols)
	for i, name := range []string{"Object", "UndefinedObject", "False", "True", "Integer", "Symbol", "String", "Array", "Class", "Method", "Block", "Context", "Process", "Message"} {
		c := &mclass{number: i + 1, name: name, methods: map[string]*mmethod{}}
		if i > 0 {
			c.super = m.classes[0]
		}
		m.symbols.Add(name)
		m.classes = append(m.classes, c)
	}
	return m
}

func fail(e api.Errno) { panic(failure{api.Refusal{Code: e}}) }

func failIf(is bool, e api.Errno) {
	if is {
		fail(e)
	}
}

// close ends the processes that wait.
func (m *model) close() {
	for _, p := range m.processes {
		p.close()
	}
}

func (m *model) class(name string) *mclass {
	for _, c := range m.classes {
		if c.name == name {
			return c
		}
	}
	return nil
}

func (c *mclass) fields() []string {
	if c.super == nil {
		return nil
	}
	return slices.Concat(c.super.fields(), c.own)
}

func (c *mclass) under(top *mclass) bool {
	return c != nil && (c == top || c.super.under(top))
}

// sorted is the class's methods by their selectors.
func (c *mclass) sorted() []string { return slices.Sorted(maps.Keys(c.methods)) }

func (d *mmethod) stale() bool { return d.layout != d.class.layout }

// told is the next number of the tape; at its end it is reckoned, and recorded.
func (m *model) told(reckon func() int) int {
	if m.at == len(m.tape) {
		m.tape = append(m.tape, reckon())
	}
	m.at++
	return m.tape[m.at-1]
}

// settle asks for the room that there is ahead of an act or event.
func (m *model) settle() {
	if m.room != nil && m.at == len(m.tape) {
		m.words, m.oops = m.room()
	}
}

// alloc is an allocation of an object of so many words, refused or not.
func (m *model) alloc(words int) {
	e := api.Errno(m.told(func() int {
		if m.room != nil && (words > m.words || m.oops == 0) {
			return int(api.ErrFull)
		}
		if m.mark == 1 {
			return int(api.ErrMarked)
		}
		return int(api.OK)
	}))
	if m.mark > 0 && e != api.ErrFull {
		m.mark--
	}
	failIf(e != api.OK, e)
	m.words, m.oops = m.words-words, m.oops-1
}

// array is an Array of n slots; the empty one is there already.
func (m *model) array(n int) {
	if n > 0 {
		m.alloc(2 + n)
	}
}

// text is a String of n bytes.
func (m *model) text(n int) { m.alloc(2 + (n+3)/4) }

func (m *model) add(texts ...string) {
	for _, s := range texts {
		_, e := m.symbols.Add(s)
		failIf(e != api.OK, e)
	}
}

// do does an act: what it answers. (An ActSave is answered without its bytes.)
func (m *model) do(a api.Act) api.Answer {
	if a.Kind != api.ActLoad && a.Kind != api.ActSave {
		m.acts = append(m.acts, a)
	}
	switch a.Kind {
	case api.ActClass:
		return m.attempt(m.define, a)
	case api.ActMethod:
		return m.attempt(m.method, a)
	case api.ActRemove:
		return m.attempt(m.remove, a)
	case api.ActGlobal:
		return m.attempt(m.global, a)
	case api.ActSpawn:
		return m.attempt(m.spawn, a)
	case api.ActReshape:
		return m.attempt(m.reshape, a)
	case api.ActRun:
		return m.attempt(m.run, a)
	case api.ActCollect, api.ActSave:
		return api.Answer{}
	case api.ActInspect:
		return api.Answer{Text: m.inspect()}
	case api.ActMark:
		if a.Number < 0 || a.Number > 1<<30 {
			return api.Answer{Refusal: api.Refusal{Code: api.ErrArg}}
		}
		m.mark = a.Number
		return api.Answer{}
	case api.ActLoad:
		return m.load(a)
	}
	return api.Answer{Refusal: api.Refusal{Code: api.ErrStep}}
}

// attempt is what may be refused; then it gives back symbols and the mark's count.
func (m *model) attempt(do func(api.Act) api.Answer, a api.Act) (answer api.Answer) {
	symbols, mark := m.symbols.Count(), m.mark
	defer func() {
		switch x := recover().(type) {
		case nil:
		case failure:
			answer = api.Answer{Refusal: x.Refusal}
			m.symbols.Back(symbols)
			if x.Code != api.ErrMarked {
				m.mark = mark
			}
		default:
			panic(x)
		}
	}()
	m.settle()
	return do(a)
}

func isClassName(s string) bool { return regexp.MustCompile(`^[A-Z][A-Za-z0-9]{0,31}$`).MatchString(s) }

func isFieldName(s string) bool {
	return regexp.MustCompile(`^[a-z][A-Za-z0-9]{0,31}$`).MatchString(s) && !slices.Contains([]string{"self", "super", "nil", "true", "false"}, s)
}

func (m *model) there(name string) bool {
	return m.class(name) != nil || slices.Contains(m.globals, name)
}

// names asks whether a list of own names may be one.
func namesMayBe(own, inherited []string) {
	for i, s := range own {
		failIf(!isFieldName(s), api.ErrName)
		failIf(slices.Contains(own[:i], s), api.ErrDouble)
		failIf(slices.Contains(inherited, s), api.ErrInherited)
	}
}

func (m *model) define(a api.Act) api.Answer {
	failIf(!isClassName(a.Name), api.ErrName)
	failIf(m.there(a.Name), api.ErrThere)
	super := m.class(a.Other)
	failIf(super == nil, api.ErrClass)
	failIf(super.number > nObject && super.number <= nMessage, api.ErrKernel)
	namesMayBe(a.Names, super.fields())
	failIf(len(super.fields())+len(a.Names) > api.MaxFields, api.ErrFields)
	failIf(len(m.classes) == api.MaxClasses, api.ErrCount)
	m.add(a.Name)
	m.add(a.Names...)
	m.array(len(a.Names))
	m.alloc(2 + 7)
	m.array(len(m.classes) + 1)
	c := &mclass{number: len(m.classes) + 1, name: a.Name, super: super, own: slices.Clone(a.Names), methods: map[string]*mmethod{}}
	m.classes = append(m.classes, c)
	return api.Answer{Number: c.number}
}

func (m *model) global(a api.Act) api.Answer {
	failIf(!isClassName(a.Name), api.ErrName)
	failIf(m.there(a.Name), api.ErrThere)
	failIf(len(m.globals) == api.MaxGlobals, api.ErrCount)
	m.add(a.Name)
	m.array(2 * (len(m.globals) + 1))
	m.globals = append(m.globals, a.Name)
	m.values[a.Name] = new(val)
	return api.Answer{Number: len(m.globals) - 1}
}

// compiled is a source's method, in a class with such fields; nothing is made yet.
func (m *model) compiled(c *mclass, fields []string, source string, read func(string) (api.Source, api.Fault)) *mmethod {
	refuse := func(f api.Fault) {
		if f.Code != api.OK {
			panic(failure{api.Refusal{Code: f.Code, At: f.At}})
		}
	}
	tree, f := read(source)
	refuse(f)
	known := api.Names{Fields: fields, Globals: m.globals}
	for _, c := range m.classes {
		known.Classes = append(known.Classes, c.name)
	}
	bound, f := scope.Resolve(tree, known)
	refuse(f)
	if tree.Selector != "" {
		_, e := m.symbols.Add(tree.Selector)
		refuse(api.Fault{Code: e, At: tree.At})
	}
	code, f := gen.Make(bound, m.symbols)
	refuse(f)
	return &mmethod{class: c, source: source, tree: tree, layout: c.layout, code: code, literals: map[int]val{}}
}

// lay allocates all that a method is made of.
func (m *model) lay(d *mmethod) {
	for _, l := range d.code.Literals {
		m.literal(l)
	}
	m.array(len(d.code.Literals))
	m.array(len(d.code.Words))
	m.text(len(d.source))
	m.alloc(2 + 9)
}

func (m *model) literal(l api.Lit) {
	for _, x := range l.Items {
		m.literal(x)
	}
	switch l.Kind {
	case api.LitText:
		m.text(len(l.Text))
	case api.LitArray:
		m.array(len(l.Items))
	}
}

// takes is how many words a context of the method itself takes.
func (d *mmethod) takes(temps int) int { return 2 + 9 + temps + d.code.Stack }

func (m *model) method(a api.Act) api.Answer {
	c := m.class(a.Name)
	failIf(c == nil, api.ErrClass)
	failIf(slices.Contains([]int{nClass, nMethod, nContext, nProcess, nMessage}, c.number), api.ErrKernel)
	d := m.compiled(c, c.fields(), a.Text, parse.Method)
	m.lay(d)
	selector := d.tree.Selector
	if c.methods[selector] == nil {
		failIf(len(c.methods) == api.MaxMethods, api.ErrCount)
		m.array(len(c.methods) + 1)
		m.array(len(c.methods) + 1)
	}
	c.methods[selector] = d
	return api.Answer{Refusal: api.Refusal{Selector: selector}}
}

func (m *model) remove(a api.Act) api.Answer {
	c := m.class(a.Name)
	failIf(c == nil, api.ErrClass)
	failIf(c.methods[a.Other] == nil, api.ErrSelector)
	m.array(len(c.methods) - 1)
	m.array(len(c.methods) - 1)
	delete(c.methods, a.Other)
	return api.Answer{}
}

func (m *model) spawn(a api.Act) api.Answer {
	failIf(len(m.processes) == api.MaxProcesses, api.ErrCount)
	d := m.compiled(m.classes[nUndefined-1], nil, a.Text, parse.Doit)
	m.lay(d)
	m.alloc(d.takes(d.code.Temps))
	m.alloc(2 + 1)
	m.array(len(m.processes) + 1)
	m.processes = append(m.processes, newProcess(m, d))
	return api.Answer{Number: len(m.processes)}
}

func (m *model) run(a api.Act) api.Answer {
	failIf(a.Number < 1 || a.Number > len(m.processes), api.ErrProcess)
	p := m.processes[a.Number-1]
	failIf(p.state != api.Ready, api.ErrProcess)
	failIf(a.Fuel < 0 || a.Fuel > 1<<40, api.ErrArg)
	answer := p.run(a.Fuel)
	answer.Number = a.Number
	return answer
}

// load is the model as it was when that image was saved.
func (m *model) load(a api.Act) api.Answer {
	text := a.Text
	if text == "" {
		text = m.last
	}
	past, there := m.past[text]
	if !there {
		return api.Answer{Refusal: api.Refusal{Code: api.ErrImage}}
	}
	was := newModel()
	was.tape = slices.Clone(past.tape)
	was.room, was.instances = m.room, m.instances
	for _, a := range past.acts {
		was.do(a)
	}
	was.ahead, was.past, was.last = m.ahead, m.past, m.last
	m.close()
	*m = *was
	for _, p := range m.processes {
		p.world = m
	}
	return api.Answer{}
}

// saved says that this is the image of the model as it is.
func (m *model) saved(text string) {
	m.last = text
	m.past[text] = recorded{slices.Clone(m.acts), slices.Clone(m.tape)}
}
