package gen

import (
	"slices"

	"kiln/api"
)

func within(n, least, most int) bool { return n >= least && n <= most }

// blocks is how many real blocks are around.
func (g *maker) blocks() int { return len(g.scopes) - 1 }

// isSlot tells whether the scope so many real scopes outward has such a slot.
func (g *maker) isSlot(outward, slot int) bool {
	return within(slot, 0, g.scopes[g.blocks()-outward]-1)
}

func mayScope(params, slots int) bool {
	return within(params, 0, api.MaxArgs) && within(slots, params, api.MaxTemps)
}

func isSelector(text string) bool { return within(len(text), 1, api.MaxSelector) }

func areBodies(list []api.Bound) bool {
	return !slices.ContainsFunc(list, func(n api.Bound) bool { return n.Kind != api.BoundBody })
}

func mayInt(n *api.Bound) bool    { return within(n.Number, api.LeastInt, api.MostInt) }
func mayText(n *api.Bound) bool   { return len(n.Text) <= api.MaxText }
func maySymbol(n *api.Bound) bool { return isSelector(n.Text) }
func mayArray(n *api.Bound) bool  { return len(n.Kids) <= api.MaxArray }
func mayPlain(*api.Bound) bool    { return true }
func mayField(n *api.Bound) bool  { return within(n.Index, 0, api.MaxFields-1) }
func mayGlobal(n *api.Bound) bool { return within(n.Index, 0, api.MaxGlobals-1) }
func mayClass(n *api.Bound) bool  { return within(n.Number, 1, api.MaxClasses) }

func (g *maker) mayTemp(n *api.Bound) bool {
	return within(n.Depth, 0, g.blocks()) && g.isSlot(n.Depth, n.Index)
}

func mayAssign(n *api.Bound) bool {
	if len(n.Kids) != 2 {
		return false
	}
	switch n.Kids[0].Kind {
	case api.BoundField, api.BoundTemp, api.BoundGlobal:
		return true
	}
	return false
}

func maySend(n *api.Bound) bool {
	return isSelector(n.Text) && within(len(n.Kids), 1, api.MaxArgs+1)
}

// mayMessage is of a message whose kids are its arguments alone.
func mayMessage(n *api.Bound) bool {
	return isSelector(n.Text) && len(n.Kids) <= api.MaxArgs
}

func mayCascade(n *api.Bound) bool {
	if len(n.Kids) < 2 {
		return false
	}
	for i := range n.Kids[1:] {
		switch n.Kids[1+i].Kind {
		case api.BoundSend:
		case api.BoundSuper:
			if n.Kids[0].Kind != api.BoundSelf {
				return false
			}
		default:
			return false
		}
	}
	return true
}

func (g *maker) mayBlock(n *api.Bound) bool {
	return mayScope(n.Params, n.Slots) && g.blocks() < api.MaxNest
}

func (g *maker) mayReturn(n *api.Bound) bool {
	return len(n.Kids) == 1 && n.Depth == g.blocks()
}

func mayIf(n *api.Bound) bool {
	kids := 2
	if n.Number == 3 || n.Number == 4 {
		kids = 3
	}
	return within(n.Number, 1, 6) && len(n.Kids) == kids && areBodies(n.Kids[1:])
}

func mayWhile(n *api.Bound) bool {
	return within(n.Number, 1, 2) && len(n.Kids) == 2 && areBodies(n.Kids)
}

func (g *maker) mayToDo(n *api.Bound) bool {
	return len(n.Kids) == 3 && areBodies(n.Kids[2:]) && g.isSlot(0, n.Index)
}

func (g *maker) mayBody(n *api.Bound) bool {
	return !slices.ContainsFunc(n.Clear, func(slot int) bool { return !g.isSlot(0, slot) })
}
