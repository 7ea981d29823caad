package sample

import (
	"strconv"

	"gameplayer/api"
)

// RoomyGraph copies a graph so that all its lists have spare capacity.
func RoomyGraph(x api.Graph) api.Graph {
	y := api.Graph{States: roomy(x.States), Depths: roomy(x.Depths), Steps: roomy(x.Steps), Complete: x.Complete}
	for i, s := range y.States {
		y.States[i] = Roomy(s)
	}
	for i, s := range y.Steps {
		y.Steps[i].Joint = Roomy(s.Joint)
	}
	return y
}

// ShowGraph shows a graph with what its lists have beyond their ends.
func ShowGraph(x api.Graph) string {
	text := showNumbers([]int{len(x.States), len(x.Steps)}) + showNumbers(x.Depths) + strconv.FormatBool(x.Complete)
	for _, s := range x.States[:cap(x.States)] {
		text += Show(s)
	}
	for _, s := range x.Steps[:cap(x.Steps)] {
		text += showNumbers([]int{s.From, s.To}) + Show(s.Joint)
	}
	return text
}
