package ground

import "gameplayer/api"

// node is a term with the numbers of its arguments.
type node struct {
	name string
	args [api.MaxArgs]int
}

// numbers give each term that occurs in a list of atoms, an atom or a part of one, a number from 1 on; terms are told apart faster by these than by their texts.
type numbers struct {
	terms map[node]int
	atoms map[int]int // the index in the list of the atom that has a number
}

func numberTerms(atoms []api.Term) numbers {
	n := numbers{terms: map[node]int{}, atoms: map[int]int{}}
	for i := range len(atoms) {
		n.atoms[n.add(atoms[i])] = i
	}
	return n
}

// add returns the number of a term, which gets one if it has none.
func (n numbers) add(t api.Term) int {
	x := node{name: t.Name}
	for i, a := range t.Args {
		x.args[i] = n.add(a)
	}
	if n.terms[x] == 0 {
		n.terms[x] = len(n.terms) + 1
	}
	return n.terms[x]
}

// of returns the number of a term whose leaves may be replaced, or 0 if it has none. For the name of a leaf that is replaced, a function returns the number and true.
func (n numbers) of(t api.Term, replaced func(name string) (int, bool)) int {
	if len(t.Args) == 0 {
		if number, ok := replaced(t.Name); ok {
			return number
		}
	}
	x := node{name: t.Name}
	for i, a := range t.Args {
		x.args[i] = n.of(a, replaced)
		if x.args[i] == 0 {
			return 0
		}
	}
	return n.terms[x]
}
