package declare

import (
	"cmp"
	"slices"

	"typedholes/api"
)

const (
	intName   = "Int"
	arrowName = "->"
)

// Check returns the first error of a list of declarations. All names come before
// all fields.
func Check(datas []api.Data) api.Fault {
	return cmp.Or(checkNames(datas), checkFields(datas))
}

func checkNames(datas []api.Data) api.Fault {
	seenTypes := map[string]bool{intName: true}
	seenConstructors := map[string]bool{}
	for _, data := range datas {
		if !isNew(seenTypes, data.Name) || hasRepetition(data.Params) {
			return api.Fault{Err: api.ErrDuplicate, Pos: data.Pos}
		}
		for _, constructor := range data.Constructors {
			if !isNew(seenConstructors, constructor.Name) {
				return api.Fault{Err: api.ErrDuplicate, Pos: constructor.Pos}
			}
		}
	}
	return api.Fault{}
}

func hasRepetition(names []string) bool {
	seen := map[string]bool{}
	return slices.ContainsFunc(names, func(name string) bool { return !isNew(seen, name) })
}

func checkFields(datas []api.Data) api.Fault {
	known := paramCounts(datas)
	for _, data := range datas {
		for _, constructor := range data.Constructors {
			for _, field := range constructor.Fields {
				if err := formed(known, field, data.Params); err != api.OK {
					return api.Fault{Err: err, Pos: constructor.Pos}
				}
			}
		}
	}
	return api.Fault{}
}

// Formed returns the first error among the nodes of a type.
func Formed(datas []api.Data, t api.Type, names []string) api.Errno {
	return formed(paramCounts(datas), t, names)
}

// paramCounts returns the numbers of parameters of the known type constructors.
// Where there are several with one name, the first one counts, as in Find.
func paramCounts(datas []api.Data) map[string]int {
	counts := map[string]int{intName: 0, arrowName: 2}
	for _, data := range datas {
		if _, isKnown := counts[data.Name]; !isKnown {
			counts[data.Name] = len(data.Params)
		}
	}
	return counts
}

func formed(known map[string]int, t api.Type, names []string) api.Errno {
	if err := nodeError(known, t, names); err != api.OK {
		return err
	}
	for _, arg := range t.Args {
		if err := formed(known, arg, names); err != api.OK {
			return err
		}
	}
	return api.OK
}

// nodeError returns the error of a node alone, without its arguments.
func nodeError(known map[string]int, t api.Type, names []string) api.Errno {
	switch t.Kind {
	case api.TypeName:
		if !slices.Contains(names, t.Name) {
			return api.ErrType
		}
	case api.TypeCon:
		count, isKnown := known[t.Name]
		if !isKnown {
			return api.ErrType
		}
		if count != len(t.Args) {
			return api.ErrArity
		}
	}
	return api.OK
}
