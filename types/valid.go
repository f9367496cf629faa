package types

import (
	"slices"

	"typedholes/api"
)

// Valid reports whether a type is valid.
func Valid(t api.Type) bool {
	switch t.Kind {
	case api.TypeVar, api.TypeBound:
		return isId(t.Id) && t.Name == "" && t.Home == 0 && len(t.Args) == 0
	case api.TypeRigid:
		return isId(t.Id) && isHome(t.Home) && t.Name == "" && len(t.Args) == 0
	case api.TypeCon:
		return t.Id == 0 && t.Home == 0 && canTake(t.Name, len(t.Args)) && allValid(t.Args)
	case api.TypeName:
		return isLowerName(t.Name) && t.Id == 0 && t.Home == 0 && len(t.Args) == 0
	}
	return false
}

func allValid(l []api.Type) bool {
	return !slices.ContainsFunc(l, func(t api.Type) bool { return !Valid(t) })
}

func isId(id int) bool { return 0 <= id && id <= maxId }

func isHome(home int) bool { return minHome <= home && home <= maxId }

// canTake reports whether a constructor with this name can have count arguments.
func canTake(name string, count int) bool {
	switch name {
	case arrowName:
		return count == 2
	case intName:
		return count == 0
	}
	return isUpperName(name) && count <= api.MaxParams
}

// The names below are those of chapter 2, told a second time, since chapter 3
// has this package import api alone.

func isUpperName(name string) bool {
	return isWord(name) && 'A' <= name[0] && name[0] <= 'Z'
}

func isLowerName(name string) bool {
	return isWord(name) && 'a' <= name[0] && name[0] <= 'z' && !isKeyword(name)
}

// isWord reports whether a name is a word that is not too long for a name.
func isWord(name string) bool {
	if name == "" || len(name) > api.MaxName {
		return false
	}
	for i := range len(name) {
		if !isWordByte(name[i]) {
			return false
		}
	}
	return true
}

func isWordByte(c byte) bool {
	return 'a' <= c && c <= 'z' || 'A' <= c && c <= 'Z' || '0' <= c && c <= '9' || c == '_'
}

func isKeyword(name string) bool {
	switch name {
	case "data", "let", "rec", "in", "case", "of", "end":
		return true
	}
	return false
}
