// Package term is layer 1: see shared/doc/01-term.md.
package term

import (
	"cmp"
	"slices"

	"gameplayer/api"
)

// The classes of terms, in their order.
const (
	classNumber = iota
	classOther  // also what is no valid constant, so that every term has a class
	classVariable
	classFunction
)

// Indices of nameEnds.
const (
	opening = iota
	comma
	closing
)

// nameEnds are the bytes that end a name within a text. No name, number or variable contains one, so a text can be read in only one way.
var nameEnds = [3]byte{'(', ',', ')'}

// head is what terms are compared by before their arguments.
type head struct {
	class int
	name  string
}

// Name reports whether s is a valid name of a constant, function or relation.
func Name(s string) bool {
	if len(s) < 1 || len(s) > api.MaxName || !lower(s[0]) || reserved(s) {
		return false
	}
	for i := range len(s) {
		if !lower(s[i]) && !digit(s[i]) && s[i] != '-' {
			return false
		}
	}
	return true
}

// Number returns the number that s denotes.
func Number(s string) (int, bool) {
	if s == "" || s[0] == '0' && len(s) > 1 {
		return 0, false
	}
	n := 0
	for i := range len(s) {
		if !digit(s[i]) {
			return 0, false
		}
		n = 10*n + int(s[i]-'0')
		if n > api.MaxNumber { // at once, before n can overflow
			return 0, false
		}
	}
	return n, true
}

// Variable reports whether s is a valid name of a variable.
func Variable(s string) bool {
	if len(s) < 1 || len(s) > api.MaxName || !upper(s[0]) {
		return false
	}
	for i := range len(s) {
		if !lower(s[i]) && !upper(s[i]) && !digit(s[i]) {
			return false
		}
	}
	return true
}

func reserved(s string) bool { return s == "if" || s == "and" || s == "not" }

func lower(b byte) bool { return 'a' <= b && b <= 'z' }

func upper(b byte) bool { return 'A' <= b && b <= 'Z' }

func digit(b byte) bool { return '0' <= b && b <= '9' }

// constant reports whether s is the name of a constant.
func constant(s string) bool {
	_, number := Number(s)
	return number || Name(s)
}

// Valid reports whether a term is valid.
func Valid(t api.Term) bool { return validWithin(t, api.MaxDepth) }

// validWithin reports whether a term is valid and not deeper than depth. It goes no deeper itself, so that its work is limited however large the term is.
func validWithin(t api.Term, depth int) bool {
	if depth < 1 {
		return false
	}
	if len(t.Args) == 0 {
		return constant(t.Name) || Variable(t.Name)
	}
	if len(t.Args) > api.MaxArgs || !Name(t.Name) {
		return false
	}
	for _, a := range t.Args {
		if !validWithin(a, depth-1) {
			return false
		}
	}
	return true
}

// Ground reports whether a term is valid and has no variables.
func Ground(t api.Term) bool { return Valid(t) && len(Vars(t)) == 0 }

// Depth returns the depth of a term.
func Depth(t api.Term) int {
	deepest := 0
	for _, a := range t.Args {
		deepest = max(deepest, Depth(a))
	}
	return deepest + 1
}

// Size returns the number of constants, variables and functions of a term.
func Size(t api.Term) int {
	size := 1
	for _, a := range t.Args {
		size += Size(a)
	}
	return size
}

// Vars returns the variables of terms in the order of their first occurrence.
func Vars(l ...api.Term) []string {
	var vars []string
	seen := map[string]bool{}
	for _, name := range appendLeaves(nil, l) {
		if Variable(name) && !seen[name] {
			seen[name] = true
			vars = append(vars, name)
		}
	}
	return vars
}

// Constants returns the constants of terms, ascending.
func Constants(l ...api.Term) []string {
	var found []api.Term
	for _, name := range appendLeaves(nil, l) {
		if constant(name) {
			found = append(found, api.Term{Name: name})
		}
	}
	var names []string
	for _, t := range Sort(found) {
		names = append(names, t.Name)
	}
	return names
}

// appendLeaves appends the names of the terms without arguments in l, from the left.
func appendLeaves(names []string, l []api.Term) []string {
	for _, t := range l {
		if len(t.Args) == 0 {
			names = append(names, t.Name)
		} else {
			names = appendLeaves(names, t.Args)
		}
	}
	return names
}

// Compare returns the order of two terms.
func Compare(a, b api.Term) int {
	x, y := headOf(a), headOf(b)
	if x.class == y.class && len(a.Args) != len(b.Args) {
		return cmp.Compare(len(a.Args), len(b.Args))
	}
	if x != y {
		return compareHeads(x, y)
	}
	return CompareList(a.Args, b.Args)
}

// CompareList returns the order of two lists of terms.
func CompareList(a, b []api.Term) int { return slices.CompareFunc(a, b, Compare) }

func headOf(t api.Term) head { return head{class: class(t), name: t.Name} }

func class(t api.Term) int {
	if len(t.Args) > 0 {
		return classFunction
	}
	if _, number := Number(t.Name); number {
		return classNumber
	}
	if Variable(t.Name) {
		return classVariable
	}
	return classOther
}

func compareHeads(x, y head) int {
	if x.class != y.class {
		return cmp.Compare(x.class, y.class)
	}
	if x.class == classNumber {
		m, _ := Number(x.name)
		n, _ := Number(y.name)
		return cmp.Compare(m, n)
	}
	return cmp.Compare(x.name, y.name)
}

// Sort returns the terms of a list, ascending.
func Sort(l []api.Term) []api.Term {
	sorted := slices.Clone(l)
	slices.SortFunc(sorted, Compare)
	var distinct []api.Term
	for i, t := range sorted {
		if i == 0 || Compare(sorted[i-1], t) != 0 {
			distinct = append(distinct, clone(t))
		}
	}
	return distinct
}

// clone copies a term with all its lists, since results share no memory with arguments.
func clone(t api.Term) api.Term {
	copied := api.Term{Name: t.Name}
	for _, a := range t.Args {
		copied.Args = append(copied.Args, clone(a))
	}
	return copied
}

// Find returns the index of a term in an ascending list.
func Find(l []api.Term, t api.Term) int {
	if i, found := slices.BinarySearchFunc(l, t, Compare); found {
		return i
	}
	return -1
}

// Text returns the text of a term.
func Text(t api.Term) string { return string(appendText(nil, t)) }

func appendText(text []byte, t api.Term) []byte {
	text = append(text, t.Name...)
	if len(t.Args) == 0 {
		return text
	}
	text = append(text, nameEnds[opening])
	for i, a := range t.Args {
		if i > 0 {
			text = append(text, nameEnds[comma])
		}
		text = appendText(text, a)
	}
	return append(text, nameEnds[closing])
}
