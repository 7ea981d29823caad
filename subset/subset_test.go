package subset_test

import (
	"fmt"
	"testing"

	"gameplayer/subset"
)

func TestValid(t *testing.T) {
	for i, l := range [][]int{nil, {}, {0}, {2}, {0, 1}, {0, 2}, {1, 2}, {0, 1, 2}} {
		if !subset.Valid(l, 3) {
			t.Errorf("%d: not valid", i)
		}
	}
	for i, l := range [][]int{{-1}, {3}, {1 << 62}, {-1 << 63}, {0, 0}, {1, 0}, {0, 2, 1}, {0, 1, 1}, {-1, 0}, {0, -1, 2}, {2, 3}, {0, 3, 2}, {0, 1, 2, 3}} {
		if subset.Valid(l, 3) {
			t.Errorf("%d: valid", i)
		}
	}
	if !subset.Valid(nil, 0) || subset.Valid([]int{0}, 0) {
		t.Error("without numbers")
	}
}

func TestOfAndMembers(t *testing.T) {
	for bits := range 1 << 5 {
		var l []int
		var members []bool
		for i := range 5 {
			members = append(members, bits>>i&1 == 1)
			if members[i] {
				l = append(l, i)
			}
		}
		if got := subset.Members(l, 5); fmt.Sprint(got) != fmt.Sprint(members) {
			t.Errorf("Members of %v are %v", l, got)
		}
		if got := subset.Of(members); fmt.Sprint(got) != fmt.Sprint(l) {
			t.Errorf("Of %v is %v", members, got)
		}
	}
	if l := subset.Of(nil); len(l) > 0 {
		t.Error(l)
	}
	if l := subset.Members(nil, 0); len(l) > 0 {
		t.Error(l)
	}
}
