package sample

import (
	"cmp"
	"slices"
	"strconv"

	"gameplayer/api"
	"gameplayer/ground"
	"gameplayer/term"
)

// Ground makes a ground description of its atoms, in any order, and its rules, which have no variables.
func Ground(atoms, rules string) api.Ground {
	g := api.Ground{Atoms: term.Sort(Terms(atoms))}
	for _, r := range Rules(rules) {
		x := api.GroundRule{Head: ground.Find(g, r.Head)}
		for _, l := range r.Body {
			if i := ground.Find(g, l.Atom); l.Not {
				x.Neg = append(x.Neg, i)
			} else {
				x.Pos = append(x.Pos, i)
			}
		}
		g.Rules = append(g.Rules, x)
	}
	return SortGround(g)
}

// SortGround sorts the numbers of the rules of a ground description, and then the rules, so that each is there once.
func SortGround(g api.Ground) api.Ground {
	for i, r := range g.Rules {
		slices.Sort(r.Pos)
		slices.Sort(r.Neg)
		g.Rules[i].Pos, g.Rules[i].Neg = slices.Compact(r.Pos), slices.Compact(r.Neg)
	}
	compare := func(a, b api.GroundRule) int {
		return cmp.Or(cmp.Compare(a.Head, b.Head), slices.Compare(a.Pos, b.Pos), slices.Compare(a.Neg, b.Neg))
	}
	slices.SortFunc(g.Rules, compare)
	g.Rules = slices.CompactFunc(g.Rules, func(a, b api.GroundRule) bool { return compare(a, b) == 0 })
	return g
}

// RoomyGround copies a ground description so that all its lists have spare capacity.
func RoomyGround(g api.Ground) api.Ground {
	copied := api.Ground{Atoms: Roomy(g.Atoms), Rules: roomy(g.Rules)}
	for i, r := range g.Rules {
		copied.Rules[i] = api.GroundRule{Head: r.Head, Pos: roomy(r.Pos), Neg: roomy(r.Neg)}
	}
	return copied
}

// ShowGround shows a ground description with what its lists have beyond their ends.
func ShowGround(g api.Ground) string {
	text := Show(g.Atoms) + strconv.Itoa(len(g.Rules))
	for _, r := range g.Rules[:cap(g.Rules)] {
		text += " " + strconv.Itoa(r.Head) + " " + showNumbers(r.Pos) + showNumbers(r.Neg)
	}
	return text
}
