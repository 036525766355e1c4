// Package name is layer 1: identifiers and reserved words (see shared/doc/01-name.md).
package name

import (
	"slices"

	"limbeck/api"
)

// The kinds that Kind answers; the numbers are the document's.
const (
	nothing = iota
	plain
	variable
	reserved
	typeWord
)

// Kind returns 1 for a name, 2 for a type variable, 3 for a reserved word, 4 for a type word, and otherwise 0.
func Kind(s string) int {
	// No word of any kind is longer, so a long text need not be read.
	if len(s) > api.MaxName {
		return nothing
	}
	switch s {
	case "let", "in", "if", "then", "else", "fn", "call", "def", "true", "false":
		return reserved
	case "Int", "Bool", "String", "Top":
		return typeWord
	}
	return shape(s)
}

// Fine reports whether s is a name.
func Fine(s string) bool { return Kind(s) == plain }

// Var reports whether s is a type variable.
func Var(s string) bool { return Kind(s) == variable }

// Rising reports whether all elements are names and each one is greater than the previous one.
func Rising(l []string) bool {
	for i, s := range l {
		if !Fine(s) || i > 0 && s <= l[i-1] {
			return false
		}
	}
	return true
}

// Fresh reports whether s does not occur in l.
func Fresh(l []string, s string) bool { return !slices.Contains(l, s) }

// shape may take runes for bytes: whatever is not ASCII, or not UTF-8 at all, comes out above 'z' and is refused.
func shape(s string) int {
	kind := nothing
	for i, c := range s {
		if i == 0 {
			kind = begun(c)
		} else if !continues(kind, c) {
			return nothing
		}
	}
	return kind
}

func begun(c rune) int {
	switch {
	case lower(c):
		return plain
	case upper(c):
		return variable
	}
	return nothing
}

func continues(kind int, c rune) bool {
	switch kind {
	case variable:
		if upper(c) {
			return true
		}
		fallthrough // apart from capitals, a type variable goes on as a name does
	case plain:
		return lower(c) || digit(c)
	}
	return false
}

func lower(c rune) bool { return 'a' <= c && c <= 'z' }

func upper(c rune) bool { return 'A' <= c && c <= 'Z' }

func digit(c rune) bool { return '0' <= c && c <= '9' }
