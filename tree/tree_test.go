package tree_test

import (
	"slices"
	"testing"

	"limbeck/tree"
)

// part is a text with parts of its own.
type part struct {
	text  string
	parts []part
}

func parts(p part) []part { return p.parts }

func sample() part {
	return part{"a", []part{{"b", []part{{"c", nil}, {"d", []part{{"e", nil}}}}}, {"f", nil}, {"g", []part{{"h", nil}}}}}
}

func TestNodes(t *testing.T) {
	var texts []string
	var depths []int
	for depth, p := range tree.Nodes(sample(), parts) {
		texts, depths = append(texts, p.text), append(depths, depth)
	}
	if !slices.Equal(texts, []string{"a", "b", "c", "d", "e", "f", "g", "h"}) || !slices.Equal(depths, []int{1, 2, 3, 3, 4, 2, 2, 3}) {
		t.Errorf("%q at the depths %d", texts, depths)
	}
}

// Nodes may be left at each node, and begun again.
func TestNodesLeft(t *testing.T) {
	nodes := tree.Nodes(sample(), parts)
	for most := 1; most <= 8; most++ {
		count := 0
		for range nodes {
			count++
			if count == most {
				break
			}
		}
		if count != most {
			t.Errorf("left after %d nodes instead of %d", count, most)
		}
	}
}

func TestNodesAlone(t *testing.T) {
	for depth, n := range tree.Nodes(7, func(int) []int { return nil }) {
		if depth != 1 || n != 7 {
			t.Errorf("%d at the depth %d", n, depth)
		}
	}
}

// As many parts nested in one another as there may be, and as many side by side.
func TestNodesMany(t *testing.T) {
	deep := part{"x", nil}
	for range 1<<16 - 1 {
		deep = part{"x", []part{deep}}
	}
	count, greatest := 0, 0
	for depth := range tree.Nodes(deep, parts) {
		count, greatest = count+1, max(greatest, depth)
	}
	for depth := range tree.Nodes(part{"x", make([]part, 1<<16)}, parts) {
		count, greatest = count+1, max(greatest, depth)
	}
	if count != 2<<16+1 || greatest != 1<<16 {
		t.Errorf("%d nodes, depth %d", count, greatest)
	}
}
