package node

import (
	"slices"

	"pentimento/api"
	"pentimento/key"
	"pentimento/page"
	"pentimento/row"
)

// node: the keys of its rows, and whether it is a node; there are none, if it isn't.
func node(p api.Page) ([]string, bool) {
	// Whether the rows have room is told first, so that of a list that is far too long but the first ones are read.
	if !page.May(p) {
		return nil, false
	}
	return keysOf(p)
}

// keysOf: as node, but the rows needn't have room.
func keysOf(p api.Page) ([]string, bool) {
	keyOf, is := readers()[p.Kind]
	if !is || !shaped(p) {
		return nil, false
	}
	var keys []string
	for _, r := range p.Rows {
		k, e := keyOf(r)
		if e != api.OK {
			return nil, false
		}
		keys = append(keys, k)
	}
	if !rising(keys) {
		return nil, false
	}
	return keys, true
}

// readers: what a row's key is, by the page's kind. A page of a kind that isn't there is no node.
func readers() map[uint8]func(text string) (string, api.Errno) {
	return map[uint8]func(text string) (string, api.Errno){
		api.PageLeaf: func(text string) (string, api.Errno) {
			r, e := row.Decode(text)
			return r.Key, e
		},
		api.PageInner: func(text string) (string, api.Errno) {
			entry, e := row.DecodeEntry(text)
			return entry.Key, e
		},
	}
}

// shaped: whether a leaf, or an inner page, may have its level and so many rows.
func shaped(p api.Page) bool {
	if p.Kind == api.PageLeaf {
		return p.Level == 0
	}
	return p.Level > 0 && len(p.Rows) > 0
}

// rising: whether each key is ahead of the next one.
func rising(keys []string) bool {
	for i := 1; i < len(keys); i++ {
		if key.Compare(keys[i-1], keys[i]) >= 0 {
			return false
		}
	}
	return true
}

// search: the first place whose key is not ahead of what is sought, and whether it is that.
func search(keys []string, sought string) (int, bool) {
	return slices.BinarySearchFunc(keys, sought, key.Compare)
}
