package symbols_test

import (
	"math"
	"slices"
	"testing"

	"starfish/api"
	"starfish/symbols"
)

// of returns symbols of so many bytes from each of these nodes.
func of(size int, nodes ...int) []api.Symbols {
	var out []api.Symbols
	for _, node := range nodes {
		out = append(out, api.Symbols{Node: node, Data: make([]byte, size)})
	}
	return out
}

func TestValid(t *testing.T) {
	for i, x := range []struct {
		all         []api.Symbols
		nodes, size int
		out         []int
		want        bool
	}{
		{nil, 4, 2, nil, true},
		{nil, 0, 0, nil, true},
		{nil, -1, 2, []int{1}, true},
		{of(2, 0), 1, 2, nil, true},
		{of(2, 3, 0, 2, 1), 4, 2, nil, true},
		{of(0, 1, 0), 2, 0, nil, true},
		{of(2, 1, 3), 4, 2, []int{0, 2, 9, -1}, true},
		{of(1, 254, 0), 255, 1, []int{7}, true},
		{of(2, 0), 0, 2, nil, false},
		{of(2, 0), -1, 2, nil, false},
		{of(2, 0, 4), 4, 2, nil, false},
		{of(2, -1, 0), 4, 2, nil, false},
		{of(2, math.MaxInt), 4, 2, nil, false},
		{of(2, math.MinInt), 4, 2, nil, false},
		{of(2, 1, 2, 1), 4, 2, nil, false},
		{of(2, 0, 0), 4, 2, nil, false},
		{of(2, 1, 2), 4, 2, []int{2}, false},
		{of(2, 1, 2), 4, 2, []int{3, 1}, false},
		{of(2, 1, 2), 4, 3, nil, false},
		{of(2, 1, 2), 4, 1, nil, false},
		{of(2, 1), 4, -1, nil, false},
		{append(of(2, 1), of(3, 2)...), 4, 2, nil, false},
		{append(of(0, 1), of(2, 2)...), 4, 2, nil, false},
	} {
		if got := symbols.Valid(x.all, x.nodes, x.size, x.out...); got != x.want {
			t.Errorf("%d: %v", i, got)
		}
	}
}

func TestAreFrom(t *testing.T) {
	for i, x := range []struct {
		all   []api.Symbols
		nodes int
		out   []int
		want  bool
	}{
		{nil, 4, nil, true},
		{nil, -1, []int{1}, true},
		{of(2, 3, 0, 2, 1), 4, nil, true},
		{append(of(2, 1), of(3, 2)...), 4, []int{0, 3}, true},
		{append(of(0, 1), of(70000, 2)...), 3, nil, true},
		{append(of(2, 1), of(3, 1)...), 4, nil, false},
		{of(2, 0, 4), 4, nil, false},
		{of(2, -1, 0), 4, nil, false},
		{of(2, 0), 0, nil, false},
		{of(2, 0), -1, nil, false},
		{of(2, math.MaxInt), 4, nil, false},
		{of(2, 1, 2), 4, []int{3, 1}, false},
	} {
		if got := symbols.AreFrom(x.all, x.nodes, x.out...); got != x.want {
			t.Errorf("%d: %v", i, got)
		}
	}
}

func TestIsNode(t *testing.T) {
	for _, nodes := range []int{-1, 0, 1, 5, 255} {
		var got []int
		for node := -3; node <= 300; node++ {
			if symbols.IsNode(node, nodes) {
				got = append(got, node)
			}
		}
		var want []int
		for node := range nodes {
			want = append(want, node)
		}
		if !slices.Equal(got, want) || symbols.IsNode(math.MaxInt, nodes) || symbols.IsNode(math.MinInt, nodes) {
			t.Errorf("of %d nodes: %v", nodes, got)
		}
	}
}
