package image

import (
	"slices"

	"kiln/api"
	"kiln/gen"
	"kiln/method"
	"kiln/object"
	"kiln/parse"
	"kiln/scope"
)

// lookAtMethods: what may still run is what its source says.
func (s *survey) lookAtMethods() {
	for _, m := range s.ofClass[api.Method] {
		info, e := method.Info(s.kernel, m.Oop())
		demand(e == api.OK)
		now, e := s.kernel.Layout(info.Class)
		demand(e == api.OK && within(info.Layout, 0, now))
		demand(within(info.Args, 0, api.MaxArgs) && within(info.Temps, info.Args, api.MaxTemps))
		demand(within(info.Stack, 0, api.MaxStack) && len(info.Code) <= api.MaxCode)
		demand(info.Selector != "" || info.Class == api.UndefinedObject)
		if info.Layout == now {
			s.lookAtCode(m, info)
		}
	}
}

// lookAtCode looks at a method that is not stale beside what its source makes.
func (s *survey) lookAtCode(m object.Object, info api.MethodInfo) {
	code := s.compiled(info)
	demand(code.Args == info.Args && code.Temps == info.Temps && code.Stack == info.Stack)
	demand(slices.Equal(code.Words, info.Code))
	literals := object.Of(s.kernel, info.Literals)
	demand(literals.Size() == len(code.Literals))
	for i, l := range code.Literals {
		demand(isLiteral(literals.ObjectAt(i), l))
	}
	s.codes[m.Oop()] = code
}

// isLiteral tells whether an object may stand for a literal. What its slots hold
// is not looked at: a program may have put other things there.
func isLiteral(o object.Object, l api.Lit) bool {
	if l.Kind == api.LitText {
		return o.Is(api.String, api.FormatBytes)
	}
	return o.Is(api.Array, api.FormatWords) && o.Size() == len(l.Items)
}

// compiled is the code of a method's source, which may add no symbol.
func (s *survey) compiled(info api.MethodInfo) api.Code {
	// A doit has no selector, and no symbol has the text "".
	read := parse.Method
	if info.Selector == "" {
		read = parse.Doit
	}
	tree, fault := read(info.Source)
	demand(fault.Code == api.OK && tree.Selector == info.Selector)
	names := s.names
	names.Fields = s.fields[info.Class]
	scoped, fault := scope.Resolve(tree, names)
	demand(fault.Code == api.OK)
	code, fault := gen.Make(scoped, s.symbols)
	demand(fault.Code == api.OK)
	return code
}
