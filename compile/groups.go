package compile

import (
	"unicode/utf8"

	"gameplayer/api"
	"gameplayer/depend"
	"gameplayer/ground"
)

// Groups returns the groups of atoms that depend on one another.
func Groups(g api.Ground) [][]int {
	if !ground.Valid(g) {
		return nil
	}
	var names []string
	for i := range g.Atoms {
		names = append(names, name(i))
	}
	var groups [][]int
	for _, l := range depend.Groups(edges(g), names) {
		var group []int
		for _, s := range l {
			group = append(group, number(s))
		}
		groups = append(groups, group)
	}
	return groups
}

// edges returns the dependencies between the atoms of a ground description, each once.
func edges(g api.Ground) []api.Edge {
	var list []api.Edge
	met := map[[2]int]bool{}
	add := func(from int, to []int) {
		for _, i := range to {
			if pair := [2]int{from, i}; !met[pair] {
				met[pair] = true
				list = append(list, api.Edge{From: name(from), To: name(i)})
			}
		}
	}
	for _, r := range g.Rules {
		add(r.Head, r.Pos)
		add(r.Head, r.Neg)
	}
	return list
}

// name is the name of an atom for package depend. In UTF-8, texts of one rune have the order of the runes, so that names have that of the numbers of atoms.
func name(atom int) string { return string(rune(atom)) }

// number is the number of the atom that has a name.
func number(name string) int {
	r, _ := utf8.DecodeRuneInString(name)
	return int(r)
}
