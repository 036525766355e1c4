// Package tree goes through what is nested in parts of its own kind, as types and expressions are.
package tree

import "iter"

// Nodes yields each node of root before its parts, with its depth: that of root is 1.
func Nodes[T any](root T, parts func(T) []T) iter.Seq2[int, T] {
	return func(yield func(int, T) bool) { visit(1, root, parts, yield) }
}

// visit hands yield itself down, so that a node costs the same at any depth; it answers false once yield has.
func visit[T any](depth int, node T, parts func(T) []T, yield func(int, T) bool) bool {
	if !yield(depth, node) {
		return false
	}
	for _, part := range parts(node) {
		if !visit(depth+1, part, parts, yield) {
			return false
		}
	}
	return true
}
