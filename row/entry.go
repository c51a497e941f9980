package row

import (
	"strings"

	"pentimento/api"
	"pentimento/word"
)

// childSize: bytes of a child, ahead of an entry's key.
const childSize = 4

// EncodeEntry: its bytes.
func EncodeEntry(e api.Entry) (string, api.Errno) {
	if !mayEntry(e) {
		return "", api.ErrArg
	}
	return numberOf(uint64(e.Child), childSize) + e.Key, api.OK
}

// DecodeEntry: the entry whose bytes they are. Its key is copied once it is known to be short, so that it doesn't keep all of s in memory.
func DecodeEntry(s string) (api.Entry, api.Errno) {
	child, is := word.Get(s, 0, childSize)
	if !is {
		return api.Entry{}, api.ErrForm
	}
	e := api.Entry{Key: s[childSize:], Child: uint32(child)}
	if !mayEntry(e) {
		return api.Entry{}, api.ErrForm
	}
	e.Key = strings.Clone(e.Key)
	return e, api.OK
}

// mayEntry: whether it may be. Its key may be empty, unlike a row's: no key is ahead of that.
func mayEntry(e api.Entry) bool {
	return len(e.Key) <= api.MaxKey && e.Child >= 1 && e.Child <= api.MaxPages
}
