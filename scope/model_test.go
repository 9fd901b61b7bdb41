package scope_test

import (
	"fmt"
	"math/rand"
	"slices"
	"strings"
	"testing"

	"kiln/api"
	"kiln/lex"
	"kiln/parse"
	"kiln/scope"
)

// The chapter, told over: a scope keeps its names in lists, and each name is
// looked for through all of them.

type modelReal struct {
	depth, slots int
}

type modelScope struct {
	names  []string
	slots  []int
	params int
	real   *modelReal
}

type model struct {
	lists  api.Names
	scopes []*modelScope // the innermost one last
}

// shape is a send that is inlined, if of its receiver and arguments each is
// what stands at its place: _ anything, 0 a block without parameters, 1 one
// with one.
type shape struct {
	kids         string
	kind, number int
}

func shapes() map[string]shape {
	return map[string]shape{
		"ifTrue:":         {"_0", api.BoundIf, 1},
		"ifFalse:":        {"_0", api.BoundIf, 2},
		"ifTrue:ifFalse:": {"_00", api.BoundIf, 3},
		"ifFalse:ifTrue:": {"_00", api.BoundIf, 4},
		"and:":            {"_0", api.BoundIf, 5},
		"or:":             {"_0", api.BoundIf, 6},
		"whileTrue:":      {"00", api.BoundWhile, 1},
		"whileFalse:":     {"00", api.BoundWhile, 2},
		"to:do:":          {"__1", api.BoundToDo, 0},
	}
}

func (s shape) fits(n api.Node) bool {
	if len(s.kids) != len(n.Kids) || n.Kids[0].Kind == api.NodeSuper {
		return false
	}
	for i, kid := range n.Kids {
		if s.kids[i] != '_' && (kid.Kind != api.NodeBlock || kid.Number != int(s.kids[i]-'0')) {
			return false
		}
	}
	return true
}

// refuse is a fault, thrown.
func refuse(code api.Errno, at int) { panic(api.Fault{Code: code, At: at}) }

func modelled(s api.Source, lists api.Names) (out api.Scoped, fault api.Fault) {
	if _, e := parse.Print(s); e == api.ErrTree {
		return out, api.Fault{Code: e}
	}
	defer func() {
		if thrown := recover(); thrown != nil {
			out, fault = api.Scoped{}, thrown.(api.Fault)
		}
	}()
	m := &model{lists: lists}
	real := &modelReal{}
	m.open(real, s.Names, s.Places, s.Params)
	out = api.Scoped{Selector: s.Selector, Params: s.Params}
	for _, n := range s.Body {
		out.Body = append(out.Body, m.node(n))
	}
	out.Slots = real.slots
	return out, fault
}

func reserved(name string) bool {
	return slices.Contains([]string{"self", "super", "nil", "true", "false"}, name)
}

func (m *model) open(real *modelReal, names []string, places []int, params int) *modelScope {
	own := &modelScope{real: real, params: params}
	m.scopes = append(m.scopes, own)
	for i, name := range names {
		at := 0
		if len(places) > i {
			at = places[i]
		}
		if reserved(name) || !strings.Contains("abcdefghijklmnopqrstuvwxyz", name[:1]) {
			refuse(api.ErrReserved, at)
		}
		for _, s := range m.scopes {
			if slices.Contains(s.names, name) {
				refuse(api.ErrTwice, at)
			}
		}
		if slices.Contains(m.lists.Fields, name) {
			refuse(api.ErrTwice, at)
		}
		if real.slots == 32 {
			refuse(api.ErrLong, at)
		}
		own.names, own.slots = append(own.names, name), append(own.slots, real.slots)
		real.slots++
	}
	return own
}

func (m *model) inner() *modelScope { return m.scopes[len(m.scopes)-1] }

func (m *model) close() { m.scopes = m.scopes[:len(m.scopes)-1] }

// named is the node of a name, the zero Bound of one that means nothing; param tells of a parameter.
func (m *model) named(name string, at int) (b api.Bound, param bool) {
	b = api.Bound{Text: name, At: at}
	for _, s := range slices.Backward(m.scopes) {
		if i := slices.Index(s.names, name); i >= 0 {
			b.Kind, b.Depth, b.Index = api.BoundTemp, m.inner().real.depth-s.real.depth, s.slots[i]
			return b, i < s.params
		}
	}
	if i := slices.Index(m.lists.Fields, name); i >= 0 {
		b.Kind, b.Index = api.BoundField, i
	} else if i := slices.Index(m.lists.Globals, name); i >= 0 {
		b.Kind, b.Index = api.BoundGlobal, i
	} else if i := slices.Index(m.lists.Classes, name); i >= 0 {
		b.Kind, b.Number = api.BoundClass, i+1
	}
	return b, false
}

func (m *model) nodes(list []api.Node) []api.Bound {
	var out []api.Bound
	for _, n := range list {
		out = append(out, m.node(n))
	}
	return out
}

func (m *model) node(n api.Node) api.Bound {
	b := api.Bound{At: n.At}
	switch n.Kind {
	case api.NodeInt:
		b.Kind, b.Number = api.BoundInt, n.Number
	case api.NodeText:
		b.Kind, b.Text = api.BoundText, n.Text
	case api.NodeSymbol:
		b.Kind, b.Text = api.BoundSymbol, n.Text
	case api.NodeArray:
		b.Kind, b.Kids = api.BoundArray, m.nodes(n.Kids)
	case api.NodeConst:
		b.Kind = map[string]int{"nil": api.BoundNil, "true": api.BoundTrue, "false": api.BoundFalse}[n.Text]
	case api.NodeName:
		if n.Text == "self" {
			b.Kind = api.BoundSelf
			return b
		}
		if b, _ = m.named(n.Text, n.At); b.Kind == 0 {
			refuse(api.ErrUnknown, n.At)
		}
	case api.NodeAssign:
		target, param := m.named(n.Text, n.At)
		if reserved(n.Text) || param || target.Kind == api.BoundClass {
			refuse(api.ErrStore, n.At)
		}
		if target.Kind == 0 {
			refuse(api.ErrUnknown, n.At)
		}
		b.Kind, b.Kids = api.BoundAssign, []api.Bound{target, m.node(n.Kids[0])}
	case api.NodeSend:
		return m.send(n)
	case api.NodeCascade:
		return m.cascade(n)
	case api.NodeBlock:
		real := &modelReal{depth: m.inner().real.depth + 1}
		m.open(real, n.Names, n.Places, n.Number)
		b.Kind, b.Params, b.Kids = api.BoundBlock, n.Number, m.nodes(n.Kids)
		b.Slots = real.slots
		m.close()
	case api.NodeReturn:
		b.Kind, b.Depth, b.Kids = api.BoundReturn, m.inner().real.depth, m.nodes(n.Kids)
	}
	return b
}

func (m *model) send(n api.Node) api.Bound {
	b := api.Bound{At: n.At}
	s, there := shapes()[n.Text]
	if !there || !s.fits(n) {
		b.Kind, b.Text = api.BoundSend, n.Text
		if n.Kids[0].Kind == api.NodeSuper {
			b.Kind, n.Kids = api.BoundSuper, n.Kids[1:]
		}
		b.Kids = m.nodes(n.Kids)
		return b
	}
	b.Kind, b.Number = s.kind, s.number
	for i, kid := range n.Kids {
		if s.kids[i] == '_' {
			b.Kids = append(b.Kids, m.node(kid))
			continue
		}
		own := m.open(m.inner().real, kid.Names, kid.Places, kid.Number)
		if kid.Number == 1 {
			b.Index = own.slots[0]
		}
		b.Kids = append(b.Kids, api.Bound{Kind: api.BoundBody, At: kid.At, Clear: own.slots[kid.Number:], Kids: m.nodes(kid.Kids)})
		m.close()
	}
	return b
}

func (m *model) cascade(n api.Node) api.Bound {
	b := api.Bound{Kind: api.BoundCascade, At: n.At}
	kind := api.BoundSend
	if n.Kids[0].Kind == api.NodeSuper {
		kind = api.BoundSuper
		b.Kids = append(b.Kids, api.Bound{Kind: api.BoundSelf, At: n.Kids[0].At})
	} else {
		b.Kids = append(b.Kids, m.node(n.Kids[0]))
	}
	for _, x := range n.Kids[1:] {
		b.Kids = append(b.Kids, api.Bound{Kind: kind, Text: x.Text, At: x.At, Kids: m.nodes(x.Kids)})
	}
	return b
}

func pick[T any](r *rand.Rand, list ...T) T { return list[r.Intn(len(list))] }

// maker makes trees at random, most of whose names mean something where they stand.
type maker struct {
	r       *rand.Rand
	lists   api.Names
	visible []string
	fresh   int
	odd     int // one name of so many is any
}

func (m *maker) rare() bool { return m.r.Intn(m.odd) == 0 }

func anyName(r *rand.Rand) string {
	return pick(r, "a", "b", "c", "v1", "v2", "v3", "x", "y", "z", "A", "B", "G", "Object", "self", "nil", "true", "super", "false")
}

func (m *maker) known() string {
	all := slices.Concat(m.visible, m.visible, m.visible, m.lists.Fields, m.lists.Globals, m.lists.Classes)
	all = slices.DeleteFunc(all, func(name string) bool { return lex.Variable(name) == api.ErrArg })
	if len(all) == 0 || m.rare() {
		return anyName(m.r)
	}
	return pick(m.r, all...)
}

// names are some that are new here, but for odd ones; they are visible from now on.
func (m *maker) names(most int) []string {
	var out []string
	for range m.r.Intn(most + 1) {
		name := fmt.Sprint("v", m.fresh)
		if m.fresh++; m.rare() {
			name = anyName(m.r)
		} else if m.r.Intn(80) == 0 {
			m.fresh = m.r.Intn(m.fresh)
		}
		out = append(out, name)
	}
	m.visible = append(m.visible, out...)
	return out
}

func (m *maker) place() int { return m.r.Intn(2000) - 100 }

func (m *maker) places(names []string) []int {
	var out []int
	for range len(names) - m.r.Intn(2)*m.r.Intn(2)*m.r.Intn(2) {
		out = append(out, m.place())
	}
	return out
}

func (m *maker) made(n api.Node) api.Node {
	n.At = m.place()
	return n
}

func (m *maker) block(depth, params int) api.Node {
	seen := len(m.visible)
	n := api.Node{Kind: api.NodeBlock}
	for len(n.Names) < params {
		n.Names = append(n.Names, m.names(1)...)
	}
	n.Number = params
	n.Names = append(n.Names, m.names(pick(m.r, 0, 0, 2, 4, 10))...)
	n.Places = m.places(n.Names)
	n.Kids = m.body(depth - 1)
	m.visible = m.visible[:seen]
	return m.made(n)
}

func (m *maker) literal(depth int) api.Node {
	switch m.r.Intn(6) {
	case 0:
		return m.made(api.Node{Kind: api.NodeText, Text: pick(m.r, "", "x", "a b")})
	case 1:
		return m.made(api.Node{Kind: api.NodeSymbol, Text: pick(m.r, "x", "at:put:", "+")})
	case 2:
		return m.made(api.Node{Kind: api.NodeConst, Text: pick(m.r, "nil", "true", "false")})
	case 3:
		n := api.Node{Kind: api.NodeArray}
		for range m.r.Intn(3) {
			if depth > 0 {
				n.Kids = append(n.Kids, m.literal(depth-1))
			}
		}
		return m.made(n)
	}
	return m.made(api.Node{Kind: api.NodeInt, Number: m.r.Intn(9) - 4})
}

func (m *maker) expression(depth int) api.Node {
	if depth <= 0 {
		return m.leaf()
	}
	switch m.r.Intn(12) {
	case 0:
		return m.literal(2)
	case 1, 2:
		return m.made(api.Node{Kind: api.NodeAssign, Text: m.known(), Kids: []api.Node{m.expression(depth - 1)}})
	case 3:
		return m.block(depth, m.r.Intn(3))
	case 4:
		n := api.Node{Kind: api.NodeCascade, Kids: []api.Node{m.receiver(depth)}}
		for range 2 + m.r.Intn(2) {
			selector := m.selector()
			n.Kids = append(n.Kids, m.made(api.Node{Kind: api.NodeMessage, Text: selector, Kids: m.arguments(selector, depth-1)}))
		}
		return m.made(n)
	case 5, 6:
		selector := m.selector()
		return m.made(api.Node{Kind: api.NodeSend, Text: selector, Kids: append([]api.Node{m.receiver(depth)}, m.arguments(selector, depth-1)...)})
	case 7, 8, 9, 10:
		return m.inlined(depth)
	}
	return m.leaf()
}

func (m *maker) leaf() api.Node {
	name := m.known()
	if m.r.Intn(8) == 0 || reserved(name) {
		name = "self"
	}
	return m.made(api.Node{Kind: api.NodeName, Text: name})
}

func (m *maker) receiver(depth int) api.Node {
	if m.r.Intn(5) == 0 {
		return m.made(api.Node{Kind: api.NodeSuper})
	}
	return m.expression(depth - 1)
}

func (m *maker) selector() string {
	return pick(m.r, "foo", "+", "foo:", "at:put:", "ifTrue:", "and:", "to:do:", "whileTrue:", "ifTrue:ifFalse:")
}

func (m *maker) arguments(selector string, depth int) []api.Node {
	count := strings.Count(selector, ":")
	if selector == "+" {
		count = 1
	}
	var out []api.Node
	for range count {
		if strings.HasPrefix(selector, "f") || m.r.Intn(2) == 0 {
			out = append(out, m.expression(depth))
		} else {
			out = append(out, m.block(depth, m.r.Intn(2)))
		}
	}
	return out
}

// inlined is a send that is inlined, or nearly so.
func (m *maker) inlined(depth int) api.Node {
	selector := pick(m.r, "ifTrue:", "ifFalse:", "ifTrue:ifFalse:", "ifFalse:ifTrue:", "and:", "or:", "whileTrue:", "whileFalse:", "to:do:", "to:do:")
	n := api.Node{Kind: api.NodeSend, Text: selector}
	for _, kid := range shapes()[selector].kids {
		switch {
		case kid == '_' || m.r.Intn(15) == 0:
			n.Kids = append(n.Kids, m.expression(depth-1))
		case m.r.Intn(15) == 0:
			n.Kids = append(n.Kids, m.block(depth-1, 1-int(kid-'0')))
		default:
			n.Kids = append(n.Kids, m.block(depth-1, int(kid-'0')))
		}
	}
	return m.made(n)
}

func (m *maker) body(depth int) []api.Node {
	var out []api.Node
	for range m.r.Intn(4) {
		out = append(out, m.expression(depth))
	}
	if m.r.Intn(3) == 0 {
		out = append(out, m.made(api.Node{Kind: api.NodeReturn, Kids: []api.Node{m.expression(depth)}}))
	}
	return out
}

func (m *maker) source(depth int) api.Source {
	s := api.Source{}
	if m.r.Intn(2) == 0 {
		s.Selector = pick(m.r, "foo", "foo:", "+", "foo:bar:")
		s.At = m.place()
		s.Params = strings.Count(s.Selector, ":")
		if s.Selector == "+" {
			s.Params = 1
		}
	}
	for len(s.Names) < s.Params {
		s.Names = append(s.Names, m.names(1)...)
	}
	s.Names = append(s.Names, m.names(pick(m.r, 0, 3, 12, 34))...)
	s.Places = m.places(s.Names)
	s.Body = m.body(depth)
	return s
}

func someNames(r *rand.Rand) api.Names {
	var n api.Names
	for _, list := range []*[]string{&n.Fields, &n.Globals, &n.Classes} {
		own := pick(r, []string{"x", "y", "z", "field"}, []string{"G", "H", "a", "b"}, []string{"Object", "A", "c", "x"}, []string{"self", "G", "v1", "nil", "", "a b"})
		for range r.Intn(5) {
			*list = append(*list, pick(r, own...))
		}
	}
	return n
}

// held is a tree's answer, held against the model's.
func held(t *testing.T, s api.Source, n api.Names) (api.Scoped, api.Fault) {
	t.Helper()
	want, wantFault := modelled(s, n)
	got, fault := scope.Resolve(s, n)
	if fault != wantFault || !same(got, want) {
		t.Fatalf("%+v of %+v:\n got %+v, %+v,\nwant %+v, %+v", s, n, got, fault, want, wantFault)
	}
	return got, fault
}

// P9.2, P9.3, P9.4: trees at random are resolved as the model tells.
func TestTreesAtRandom(t *testing.T) {
	r := rand.New(rand.NewSource(91))
	counts := map[api.Errno]int{}
	kinds := map[int]int{}
	for i := range 12000 {
		m := &maker{r: r, lists: someNames(r), odd: pick(r, 10, 60, 1000000)}
		got, fault := held(t, m.source(1+i%6), m.lists)
		counts[fault.Code]++
		copied(got.Body, func(b *api.Bound) { kinds[b.Kind]++ })
	}
	for _, code := range []api.Errno{api.OK, api.ErrLong, api.ErrUnknown, api.ErrTwice, api.ErrStore, api.ErrReserved} {
		if counts[code] < 200 {
			t.Fatalf("too few of one code: %v", counts)
		}
	}
	for kind := api.BoundInt; kind <= api.BoundBody; kind++ {
		if kinds[kind] < 100 {
			t.Fatalf("too few of one kind: %v", kinds)
		}
	}
}

// P9.2: what is no tree is refused, whatever its names are.
func TestBrokenTrees(t *testing.T) {
	r := rand.New(rand.NewSource(92))
	counts := map[api.Errno]int{}
	for i := range 20000 {
		m := &maker{r: r, lists: someNames(r), odd: pick(r, 60, 1000000)}
		s := m.source(i % 5)
		breakOne(r, &s)
		_, fault := held(t, s, m.lists)
		counts[fault.Code]++
	}
	if counts[api.ErrTree] < 2000 || counts[api.OK] < 2000 {
		t.Fatalf("too few of one kind: %v", counts)
	}
}

// breakOne changes a node of a tree at random.
func breakOne(r *rand.Rand, s *api.Source) {
	var all []*api.Node
	var nodes func([]api.Node)
	nodes = func(list []api.Node) {
		for i := range list {
			all = append(all, &list[i])
			nodes(list[i].Kids)
		}
	}
	nodes(s.Body)
	if len(all) == 0 {
		s.Params += r.Intn(3) - 1
		return
	}
	n := pick(r, all...)
	switch r.Intn(5) {
	case 0:
		n.Kind = r.Intn(16) - 1
	case 1:
		n.Text = pick(r, "", "a", "A", "self", "super", "nil", "+", "foo:", "ifTrue:", "to:do:")
	case 2:
		n.Number = r.Intn(5) - 1
	case 3:
		n.Kids = n.Kids[:r.Intn(len(n.Kids)+1)]
	case 4:
		n.Kids = append(slices.Clone(n.Kids), pick(r, api.Node{}, api.Node{Kind: api.NodeName, Text: "self"}, api.Node{Kind: api.NodeBlock}))
	}
}

// P9.5: slots are below the Slots of their scopes, and each of a scope's is
// its own, a temporary's of one Clear, or one to:do:'s.
func TestSlotsFollow(t *testing.T) {
	r := rand.New(rand.NewSource(95))
	answered := 0
	for i := range 5000 {
		m := &maker{r: r, lists: someNames(r), odd: 1000000}
		s := m.source(1 + i%6)
		got, fault := scope.Resolve(s, m.lists)
		if fault.Code != api.OK {
			continue
		}
		answered++
		given := 0
		holdSlots(t, got.Body, []int{got.Slots}, got.Params, len(s.Names), &given)
		if given+len(s.Names) != got.Slots {
			t.Fatalf("%+v: %d slots of names, %d of inlined ones", got, len(s.Names), given)
		}
	}
	if answered < 1500 {
		t.Fatalf("too few: %d", answered)
	}
}

// holdSlots looks at a real scope's nodes, and at the scopes in it. All slots
// are those of the scopes around; own names of the scope come first, if it is
// known how many there are, and given counts the slots of inlined blocks.
func holdSlots(t *testing.T, list []api.Bound, all []int, params, own int, given *int) {
	t.Helper()
	slots := all[len(all)-1]
	met := map[int]int{}
	meet := func(slot int) {
		if met[slot]++; met[slot] > 1 || slot < max(params, own) || slot >= slots {
			t.Fatalf("slot %d of %d is given twice, or not to be given: %+v", slot, slots, list)
		}
		*given++
	}
	var look func([]api.Bound)
	look = func(list []api.Bound) {
		for _, b := range list {
			switch b.Kind {
			case api.BoundTemp:
				if b.Depth < 0 || b.Depth >= len(all) || b.Index < 0 || b.Index >= all[len(all)-1-b.Depth] {
					t.Fatalf("%+v in scopes of %v slots", b, all)
				}
			case api.BoundToDo:
				meet(b.Index)
			case api.BoundBody:
				for _, slot := range b.Clear {
					meet(slot)
				}
			case api.BoundBlock:
				inner := 0
				holdSlots(t, b.Kids, append(slices.Clone(all), b.Slots), b.Params, 0, &inner)
				if b.Params+inner > b.Slots {
					t.Fatalf("%+v: %d slots of inlined blocks", b, inner)
				}
				continue
			}
			look(b.Kids)
		}
	}
	look(list)
}

// renamed is a tree, and what its names may mean, with other names.
func renamed(s api.Source, n api.Names, to func(string) string) (api.Source, api.Names) {
	all := func(list []string) []string {
		var out []string
		for _, name := range list {
			out = append(out, to(name))
		}
		return out
	}
	var nodes func([]api.Node) []api.Node
	nodes = func(list []api.Node) []api.Node {
		var out []api.Node
		for _, n := range list {
			if n.Kind == api.NodeName || n.Kind == api.NodeAssign {
				n.Text = to(n.Text)
			}
			n.Names, n.Kids = all(n.Names), nodes(n.Kids)
			out = append(out, n)
		}
		return out
	}
	s.Names, s.Body = all(s.Names), nodes(s.Body)
	return s, api.Names{Fields: all(n.Fields), Classes: all(n.Classes), Globals: all(n.Globals)}
}

// P9.5: other names, told apart as these are, change nothing but texts of names.
func TestOtherNames(t *testing.T) {
	r := rand.New(rand.NewSource(96))
	answered := 0
	for i := range 4000 {
		m := &maker{r: r, lists: someNames(r), odd: pick(r, 40, 1000000)}
		s := m.source(1 + i%6)
		given := map[string]string{}
		to := func(name string) string {
			if reserved(name) || name == "" || strings.Contains(name, " ") {
				return name
			}
			if given[name] == "" {
				first := pick(r, "q", "a", "x", "v")
				if name[0] < 'a' {
					first = pick(r, "Q", "A", "X", "V")
				}
				given[name] = fmt.Sprint(first, len(given))
			}
			return given[name]
		}
		other, lists := renamed(s, m.lists, to)
		got, fault := scope.Resolve(s, m.lists)
		want, wantFault := scope.Resolve(other, lists)
		got.Body = copied(got.Body, func(b *api.Bound) {
			if slices.Contains([]int{api.BoundField, api.BoundTemp, api.BoundGlobal, api.BoundClass}, b.Kind) {
				b.Text = to(b.Text)
			}
		})
		if fault != wantFault || !same(got, want) {
			t.Fatalf("%+v of %+v:\n got %+v, %+v,\nwant %+v, %+v", s, m.lists, got, fault, want, wantFault)
		}
		if fault.Code == api.OK {
			answered++
		}
	}
	if answered < 800 {
		t.Fatalf("too few: %d", answered)
	}
}

// P9.1: no tree stops a call short, and each is answered one way.
func TestNothingPanics(t *testing.T) {
	r := rand.New(rand.NewSource(97))
	for range 20000 {
		s := api.Source{Selector: pick(r, "", "a", "+", "a:", "a:b:"), Params: r.Intn(5) - 1, Names: slices.Repeat([]string{"a"}, r.Intn(3))}
		for range r.Intn(3) {
			s.Body = append(s.Body, anyNode(r, 3))
		}
		n := someNames(r)
		got, fault := held(t, s, n)
		if again, f := scope.Resolve(s, n); f != fault || !same(again, got) {
			t.Fatalf("%+v answers %+v, %+v, then %+v, %+v", s, got, fault, again, f)
		}
	}
}

func anyNode(r *rand.Rand, depth int) api.Node {
	n := api.Node{Kind: r.Intn(15), Text: pick(r, "", "a", "+", "a:", "nil", "ifTrue:", "to:do:"), Number: r.Intn(4) - 1, At: r.Intn(9) - 4}
	n.Names, n.Places = slices.Repeat([]string{"a"}, r.Intn(3)), slices.Repeat([]int{5}, r.Intn(3))
	for range r.Intn(4) {
		if depth > 0 {
			n.Kids = append(n.Kids, anyNode(r, depth-1))
		}
	}
	return n
}
