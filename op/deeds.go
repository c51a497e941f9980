package op

import (
	"slices"

	"pentimento/api"
	"pentimento/word"
)

// deed does an op to a page. Its list of rows becomes a new one, where it becomes another one.
type deed func(p *api.Page, o api.Op) api.Errno

// deeds: what an op of each kind does.
func deeds() map[uint8]deed {
	return map[uint8]deed{
		api.OpFormat: format,
		api.OpPut:    put,
		api.OpSet:    set,
		api.OpDrop:   drop,
		api.OpCut:    cut,
		api.OpFill:   fill,
		api.OpNext:   next,
		api.OpPatch:  patch,
	}
}

func format(p *api.Page, o api.Op) api.Errno {
	*p = api.Page{Kind: o.PKind, Level: o.Level, Id: o.Page, Next: o.Next}
	return api.OK
}

func put(p *api.Page, o api.Op) api.Errno {
	return swap(p, o.At, o.At, o.Text)
}

func set(p *api.Page, o api.Op) api.Errno {
	return swap(p, o.At, o.At+1, o.Text)
}

func drop(p *api.Page, o api.Op) api.Errno {
	return swap(p, o.At, o.At+1)
}

func cut(p *api.Page, o api.Op) api.Errno {
	return swap(p, o.At, len(p.Rows))
}

func fill(p *api.Page, o api.Op) api.Errno {
	return swap(p, len(p.Rows), len(p.Rows), o.Rows...)
}

func next(p *api.Page, o api.Op) api.Errno {
	p.Next = o.Next
	return api.OK
}

func patch(p *api.Page, o api.Op) api.Errno {
	if o.At >= len(p.Rows) {
		return api.ErrNone
	}
	text, is := word.Set(p.Rows[o.At], o.Off, o.Text)
	if !is {
		return api.ErrArg
	}
	return swap(p, o.At, o.At+1, text)
}

// swap: the rows from one place up to another one go, and these come instead; ErrNone, unless both places are there.
func swap(p *api.Page, from, to int, rows ...string) api.Errno {
	if from > to || to > len(p.Rows) {
		return api.ErrNone
	}
	p.Rows = slices.Concat(p.Rows[:from], rows, p.Rows[to:])
	return api.OK
}
