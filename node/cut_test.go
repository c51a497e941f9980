package node

import (
	"strings"
	"testing"

	"pentimento/api"
)

// P8.3: each part has room. No rows of a node are so long that this is in question, so the cut is asked of rows that are none.
func TestCutRoom(t *testing.T) {
	for _, c := range []struct {
		sizes []int
		left  int
	}{
		{[]int{480, 480}, 1},
		{[]int{480, 481}, 0},
		{[]int{481, 480}, 0},
		{[]int{10, 478, 20}, 0},
		{[]int{10, 466, 480}, 2},
		{[]int{10, 467, 480}, 0},
		{[]int{480, 466, 10}, 1},
		{[]int{480, 467, 10}, 0},
		{[]int{1, 1, 1 << 20}, 0},
		{[]int{1 << 20}, 0},
		{nil, 0},
	} {
		p := api.Page{Kind: api.PageLeaf, Id: 1}
		for _, n := range c.sizes {
			p.Rows = append(p.Rows, strings.Repeat("r", n))
		}
		if n := cut(p); n != c.left {
			t.Errorf("%v: %d, not %d", c.sizes, n, c.left)
		}
	}
}
