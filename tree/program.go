package tree

import (
	"slices"

	"typedholes/api"
	"typedholes/types"
)

// StripProgram returns p without positions.
func StripProgram(p api.Program) api.Program {
	p.Datas = slices.Clone(p.Datas)
	for i, data := range p.Datas {
		p.Datas[i] = stripData(data)
	}
	p.Binds = slices.Clone(p.Binds)
	for i, bind := range p.Binds {
		bind.Pos = 0
		bind.Body = Strip(bind.Body)
		p.Binds[i] = bind
	}
	return p
}

func stripData(data api.Data) api.Data {
	data.Pos = 0
	data.Constructors = slices.Clone(data.Constructors)
	for i := range data.Constructors {
		data.Constructors[i].Pos = 0
	}
	return data
}

// EqualProgram reports whether two programs are equal, apart from positions.
func EqualProgram(a, b api.Program) bool {
	return slices.EqualFunc(a.Datas, b.Datas, equalDatas) &&
		slices.EqualFunc(a.Binds, b.Binds, equalBinds)
}

func equalDatas(a, b api.Data) bool {
	return a.Name == b.Name && slices.Equal(a.Params, b.Params) &&
		slices.EqualFunc(a.Constructors, b.Constructors, equalConstructors)
}

func equalConstructors(a, b api.Constructor) bool {
	return a.Name == b.Name && slices.EqualFunc(a.Fields, b.Fields, types.Equal)
}

func equalBinds(a, b api.Bind) bool {
	return a.Rec == b.Rec && a.Name == b.Name && a.HasSig == b.HasSig &&
		types.Equal(a.Sig, b.Sig) && Equal(a.Body, b.Body)
}
