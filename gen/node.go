package gen

import "kiln/api"

// kind is what is done with the nodes of one kind.
type kind struct {
	may func(*api.Bound) bool // whether a node may be, as far as it tells without its kids being gone through
	lay func(*api.Bound)
}

func (g *maker) allKinds() [api.BoundBody + 1]kind {
	return [api.BoundBody + 1]kind{
		api.BoundInt:     {mayInt, g.layInt},
		api.BoundText:    {mayText, g.layLiteral},
		api.BoundSymbol:  {maySymbol, g.laySymbol},
		api.BoundArray:   {mayArray, g.layLiteral},
		api.BoundNil:     {mayPlain, g.layNil},
		api.BoundTrue:    {mayPlain, g.layTrue},
		api.BoundFalse:   {mayPlain, g.layFalse},
		api.BoundSelf:    {mayPlain, g.laySelf},
		api.BoundField:   {mayField, g.layField},
		api.BoundTemp:    {g.mayTemp, g.layTemp},
		api.BoundGlobal:  {mayGlobal, g.layGlobal},
		api.BoundClass:   {mayClass, g.layClass},
		api.BoundAssign:  {mayAssign, g.layAssign},
		api.BoundSend:    {maySend, g.laySend},
		api.BoundSuper:   {mayMessage, g.laySuper},
		api.BoundCascade: {mayCascade, g.layCascade},
		api.BoundBlock:   {g.mayBlock, g.layBlock},
		api.BoundReturn:  {g.mayReturn, g.layReturn},
		api.BoundIf:      {mayIf, g.layIf},
		api.BoundWhile:   {mayWhile, g.layWhile},
		api.BoundToDo:    {g.mayToDo, g.layToDo},
		api.BoundBody:    {g.mayBody, g.layBody},
	}
}

// look refuses a node that may not be.
func (g *maker) look(n *api.Bound) {
	if !within(n.Kind, api.BoundInt, api.BoundBody) || !g.kinds[n.Kind].may(n) {
		refuse(api.ErrTree, n.At)
	}
}

func (g *maker) lay(n *api.Bound) {
	g.look(n)
	g.kinds[n.Kind].lay(n)
}

// expression lays a node where a value is asked for.
func (g *maker) expression(n *api.Bound) {
	if n.Kind == api.BoundReturn || n.Kind == api.BoundBody {
		refuse(api.ErrTree, n.At)
	}
	g.lay(n)
}

func (g *maker) expressions(list []api.Bound) {
	for i := range list {
		g.expression(&list[i])
	}
}

func (g *maker) statements(list []api.Bound) {
	for i := range list {
		if i > 0 {
			g.put(list[i-1].At, api.OpPop)
		}
		if i == len(list)-1 && list[i].Kind == api.BoundReturn {
			g.lay(&list[i])
		} else {
			g.expression(&list[i])
		}
	}
}

// returns tells whether the last one of statements is a return.
func returns(list []api.Bound) bool {
	return len(list) > 0 && list[len(list)-1].Kind == api.BoundReturn
}

func (g *maker) method(m *api.Scoped) {
	if !mayScope(m.Params, m.Slots) {
		refuse(api.ErrTree, 0)
	}
	g.code.Args, g.code.Temps = m.Params, m.Slots
	g.scopes = []int{m.Slots}
	g.statements(m.Body)
	if returns(m.Body) {
		return
	}
	at := 0
	if len(m.Body) > 0 {
		at = m.Body[len(m.Body)-1].At
		g.put(at, api.OpPop)
	}
	g.put(at, api.OpSelf)
	g.put(at, api.OpReturn)
}

func (g *maker) layInt(n *api.Bound)    { g.put(n.At, api.OpInt, n.Number) }
func (g *maker) laySymbol(n *api.Bound) { g.put(n.At, api.OpSym, g.symbolOf(n)) }
func (g *maker) layNil(n *api.Bound)    { g.put(n.At, api.OpNil) }
func (g *maker) layTrue(n *api.Bound)   { g.put(n.At, api.OpTrue) }
func (g *maker) layFalse(n *api.Bound)  { g.put(n.At, api.OpFalse) }
func (g *maker) laySelf(n *api.Bound)   { g.put(n.At, api.OpSelf) }
func (g *maker) layField(n *api.Bound)  { g.put(n.At, api.OpField, n.Index) }
func (g *maker) layTemp(n *api.Bound)   { g.put(n.At, api.OpTemp, n.Depth, n.Index) }
func (g *maker) layGlobal(n *api.Bound) { g.put(n.At, api.OpGlobal, n.Index) }
func (g *maker) layClass(n *api.Bound)  { g.put(n.At, api.OpClass, n.Number) }

func (g *maker) layAssign(n *api.Bound) {
	target := &n.Kids[0]
	g.look(target)
	g.expression(&n.Kids[1])
	switch target.Kind {
	case api.BoundField:
		g.put(n.At, api.OpStoreField, target.Index)
	case api.BoundTemp:
		g.put(n.At, api.OpStoreTemp, target.Depth, target.Index)
	case api.BoundGlobal:
		g.put(n.At, api.OpStoreGlobal, target.Index)
	}
}

func (g *maker) laySend(n *api.Bound) {
	g.expressions(n.Kids)
	g.put(n.At, api.OpSend, g.symbolOf(n), len(n.Kids)-1)
}

func (g *maker) laySuper(n *api.Bound) {
	g.put(n.At, api.OpSelf)
	g.message(n)
}

// message lays what is sent to a receiver that is on the stack.
func (g *maker) message(n *api.Bound) {
	op := api.OpSend
	if n.Kind == api.BoundSuper {
		op = api.OpSuper
	}
	g.expressions(n.Kids)
	g.put(n.At, op, g.symbolOf(n), len(n.Kids))
}

func (g *maker) layCascade(n *api.Bound) {
	g.expression(&n.Kids[0])
	for i := range n.Kids[1:] {
		m := &n.Kids[1+i]
		if !mayMessage(m) {
			refuse(api.ErrTree, m.At)
		}
		if i == len(n.Kids)-2 {
			g.message(m)
			return
		}
		g.put(m.At, api.OpDup)
		g.message(m)
		g.put(m.At, api.OpPop)
	}
}

func (g *maker) layBlock(n *api.Bound) {
	end := g.length(n.At, api.OpBlock, n.Params, n.Slots)
	depth, come := g.depth, g.come
	g.depth = 0
	g.scopes = append(g.scopes, n.Slots)
	g.statements(n.Kids)
	if len(n.Kids) == 0 {
		g.put(n.At, api.OpNil)
	}
	if !returns(n.Kids) {
		g.put(n.At, api.OpBlockReturn)
	}
	g.scopes = g.scopes[:g.blocks()]
	g.depth, g.come = depth, come
	end()
}

func (g *maker) layReturn(n *api.Bound) {
	g.expression(&n.Kids[0])
	if n.Depth == 0 {
		g.put(n.At, api.OpReturn)
	} else {
		g.put(n.At, api.OpHomeReturn)
	}
}

func (g *maker) layBody(n *api.Bound) {
	for _, slot := range n.Clear {
		g.put(n.At, api.OpNil)
		g.put(n.At, api.OpStoreTemp, 0, slot)
		g.put(n.At, api.OpPop)
	}
	g.statements(n.Kids)
	if len(n.Kids) == 0 {
		g.put(n.At, api.OpNil)
	}
}

func (g *maker) layIf(n *api.Bound) {
	g.expression(&n.Kids[0])
	other := g.forward(n.At, unless(n.Number))
	g.lay(&n.Kids[1])
	end := g.forward(n.At, api.OpJump)
	other()
	switch n.Number {
	case 1, 2:
		g.put(n.At, api.OpNil)
	case 5:
		g.put(n.At, api.OpFalse)
	case 6:
		g.put(n.At, api.OpTrue)
	default:
		g.lay(&n.Kids[2])
	}
	end()
}

// unless is the jump past what a condition of this number is the first to choose.
func unless(number int) int {
	if number%2 == 1 {
		return api.OpIfFalse
	}
	return api.OpIfTrue
}

func (g *maker) layWhile(n *api.Bound) {
	again := g.backward()
	g.lay(&n.Kids[0])
	end := g.forward(n.At, unless(n.Number))
	g.lay(&n.Kids[1])
	g.put(n.At, api.OpPop)
	again(n.At, api.OpBack)
	end()
	g.put(n.At, api.OpNil)
}

func (g *maker) layToDo(n *api.Bound) {
	g.expressions(n.Kids[:2])
	end := g.forward(n.At, api.OpFirst, n.Index)
	again := g.backward()
	g.lay(&n.Kids[2])
	g.put(n.At, api.OpPop)
	again(n.At, api.OpNext, n.Index)
	end()
	g.put(n.At, api.OpNil)
}
