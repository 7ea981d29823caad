package combine_test

import (
	"fmt"
	"slices"
	"testing"

	"gameplayer/api"
	"gameplayer/combine"
)

// numbers are lists of numbers from 0 on, with some lengths.
func numbers(counts ...int) [][]int {
	var lists [][]int
	for _, n := range counts {
		l := []int{}
		for i := range n {
			l = append(l, i)
		}
		lists = append(lists, l)
	}
	return lists
}

// All joint moves are listed in their order.
func TestMoves(t *testing.T) {
	for _, c := range []struct {
		legal [][]int
		want  string
	}{
		{[][]int{{3, 5}, {7}, {8, 9}}, "[[3 7 8] [3 7 9] [5 7 8] [5 7 9]]"}, {[][]int{{4}}, "[[4]]"}, {[][]int{{1, 0}, {2, 1}}, "[[1 2] [1 1] [0 2] [0 1]]"}, {nil, "[[]]"},
	} {
		if got, e := combine.Moves(c.legal, slices.Clone[[]int]); fmt.Sprint(got) != c.want || e != api.OK {
			t.Errorf("%v: %v, %d, want %s", c.legal, got, e, c.want)
		}
	}
}

// A role without moves comes before too many moves, and these before nothing.
func TestLimits(t *testing.T) {
	for _, c := range []struct {
		counts []int
		want   api.Errno
	}{
		{[]int{64}, api.OK}, {[]int{65}, api.ErrTooLarge}, {[]int{1, 65}, api.ErrTooLarge}, {[]int{16, 16}, api.OK}, {[]int{16, 17}, api.ErrTooLarge}, {[]int{4, 4, 4, 4}, api.OK}, {[]int{4, 4, 4, 5}, api.ErrTooLarge}, {[]int{43, 6}, api.ErrTooLarge},
		{[]int{0}, api.ErrMove}, {[]int{65, 0}, api.ErrMove}, {[]int{0, 65}, api.ErrMove}, {[]int{64, 64, 64, 0}, api.ErrMove}, {slices.Repeat([]int{64}, 20), api.ErrTooLarge},
	} {
		count := 1
		for _, n := range c.counts {
			count *= n
		}
		if got, e := combine.Moves(numbers(c.counts...), slices.Clone[[]int]); e != c.want || e == api.OK && len(got) != count || e != api.OK && got != nil {
			t.Errorf("%v: %d joint moves, %d, want %d", c.counts, len(got), e, c.want)
		}
	}
}

// Joint moves share no memory with one another.
func TestMemory(t *testing.T) {
	legal := numbers(2, 3, 2)
	got, _ := combine.Moves(legal, slices.Clone[[]int])
	for i, joint := range got {
		rest := fmt.Sprint(got[i+1:], legal)
		for k := range joint[:cap(joint)] {
			joint[:cap(joint)][k] = -9
		}
		if fmt.Sprint(got[i+1:], legal) != rest {
			t.Fatal(got, legal)
		}
	}
}
