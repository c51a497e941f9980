package node

import (
	"strings"

	"pentimento/api"
	"pentimento/key"
	"pentimento/page"
)

// isRow: whether there is a row at the place.
func isRow(p api.Page, at int) bool {
	return at >= 0 && at < len(p.Rows)
}

// roomy: whether just these rows have room in a node. All else of it may be, as it is one.
func roomy(p api.Page, rows []string) bool {
	p.Rows = rows
	return page.May(p)
}

// weight: bytes that the rows take in an area.
func weight(rows []string) int {
	n := 0
	for _, r := range rows {
		n += api.SlotSize + len(r)
	}
	return n
}

// cut: how many rows the left part of a split has; 0, if the rows can't be split.
func cut(p api.Page) int {
	best, least := 0, 0
next:
	for n := 1; n < len(p.Rows); n++ {
		left, right := p.Rows[:n], p.Rows[n:]
		for _, part := range [][]string{left, right} {
			if !roomy(p, part) {
				continue next
			}
		}
		l, r := weight(left), weight(right)
		apart := max(l, r) - min(l, r)
		if best > 0 && apart >= least {
			continue next
		}
		best, least = n, apart
	}
	return best
}

// separator: that of the page's first n rows and the others, whose keys these are.
func separator(p api.Page, keys []string, n int) string {
	if p.Kind == api.PageInner {
		return keys[n]
	}
	// The one is ahead of the other, so that there is something between.
	sep, _ := key.Between(keys[n-1], keys[n])
	return sep
}

// own: the page, with a list and rows of its own.
func own(p api.Page) api.Page {
	p.Rows = copied(p.Rows)
	return p
}

// copied: the rows, none of which keeps what it was cut out of in memory.
func copied(rows []string) []string {
	var l []string
	for _, r := range rows {
		l = append(l, strings.Clone(r))
	}
	return l
}
