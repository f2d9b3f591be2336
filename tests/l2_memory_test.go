package tests

import (
	"slices"
	"testing"

	"loop.example/regulator/impl"
)

// told is all that chapter 2 answers of a state; its lists are the answers themselves.
func told(s impl.State) (flags [2]bool, lists [][]int) {
	flags = [2]bool{impl.Safe(s), impl.Stuck(s)}
	lists = [][]int{impl.Allowed(s), impl.Ring(s)}
	for _, name := range append(slices.Clone(s.Names), 1000, -1) {
		lists = append(lists, impl.Waits(s, name))
	}
	return flags, lists
}

func allStates() []impl.State {
	states := []impl.State{roomy(), {}, walker(9), crowd(2, 1)}
	for _, c := range known() {
		states = append(states, c.s)
	}
	return states
}

func TestSafetyWritesNothingIntoTheArgument(t *testing.T) {
	for i, s := range allStates() {
		s = spaced(s)
		before := deepCopy(whole(s))
		told(s)
		if got := whole(s); !same(got, before) {
			t.Errorf("state %d: %v, was %v", i, got, before)
		}
	}
}

// The answers of the first call are written over ahead of the second: nothing of them is kept.
func TestSafetyAnswersTheSameAgain(t *testing.T) {
	for i, s := range allStates() {
		flags, lists := told(s)
		var want [][]int
		for _, list := range lists {
			want = append(want, slices.Clone(list))
			for j := range list[:cap(list)] {
				list[:cap(list)][j] = mark
			}
		}
		again, got := told(s)
		if again != flags || !slices.EqualFunc(got, want, slices.Equal) {
			t.Errorf("state %d: %v %v, then %v %v", i, flags, want, again, got)
		}
	}
}

// In each state one of the three lists is as long as it can be: a piece of Names would do for it.
func TestAllowedWaitsAndRingShareNoMemory(t *testing.T) {
	four := with([]int{1, 4}, []int{1, 2, 3, 4, 5}, train(0, 1), train(1, 0), train(1, 0), train(1, 0), train(1, 0))
	for i, s := range []impl.State{crowd(5, 5), circle(5), four} {
		s = spaced(s)
		_, got := told(s)
		_, again := told(s)
		if n := max(len(got[0]), len(got[1]), len(got[2])); n < 4 {
			t.Fatalf("state %d: %v", i, got)
		}
		lists := intLists(s)
		for _, list := range slices.Concat(got, again) {
			lists = append(lists, list[:cap(list)])
		}
		numbered(t, "safety", lists)
	}
}
