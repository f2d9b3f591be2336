package tests

import (
	"slices"
	"testing"

	"loop.example/regulator/impl"
)

// rowUp and rowDown are the sections behind one of a row, up to its end or down to its beginning.
func rowUp(from, end int) []int {
	var path []int
	for section := from + 1; section <= end; section++ {
		path = append(path, section)
	}
	return path
}

func rowDown(from, end int) []int {
	path := rowUp(end-1, from-1)
	slices.Reverse(path)
	return path
}

// meeting is two trains against one another in a row of that many sections, on these two of them; the way of the second
// one is given.
func meeting(sections, first, second int, down []int) impl.State {
	return with(rooms(sections+1, 1), []int{3, 5}, train(first, rowUp(first, sections-1)...), train(second, down...))
}

// turned is the row seen from its other end, and the trains by the other order of their numbers.
func turned(s impl.State, sections int) impl.State {
	s = deepCopy(s)
	slices.Reverse(s.Trains)
	other := func(section int) int {
		if section < sections {
			return sections - 1 - section
		}
		return section
	}
	for i, x := range s.Trains {
		s.Trains[i].At = other(x.At)
		for j, section := range x.Path {
			x.Path[j] = other(section)
		}
	}
	return s
}

func checkMeeting(t *testing.T, s impl.State, sections int, safe bool) {
	t.Helper()
	for _, s := range []impl.State{s, turned(s, sections), weighed(s, 1, 100), weighed(s, 100, 1)} {
		if impl.StateOk(s) != 0 {
			t.Fatalf("not right: %v", s)
		}
		want := leastFrom(s, map[string]impl.Best{})
		best := impl.Solve(s)
		if impl.Safe(s) != safe || best.Ok != safe || !sameBest(best, want) {
			t.Errorf("row of %d, %v: Safe %v, %v, not %v", sections, s, impl.Safe(s), best, want)
		}
		if safe && impl.Cost(s, best.Moves) != best.Cost {
			t.Errorf("row of %d, %v: Cost %d, not %d", sections, s, impl.Cost(s, best.Moves), best.Cost)
		}
	}
}

func TestAgainstOneAnotherInARow(t *testing.T) {
	for sections := 2; sections <= 8; sections++ {
		for first := range sections {
			for second := first + 1; second < sections; second++ {
				checkMeeting(t, meeting(sections, first, second, rowDown(second, 0)), sections, false)
			}
		}
	}
}

// How the second train goes by: out of a section of the row to a place aside, and back to that section, on from the place
// itself, or off there; or through the place instead of the section, so that the first train may stand on the section.
func TestOneGoesAsideInARow(t *testing.T) {
	safe := 0
	for sections := 3; sections <= 8; sections++ {
		aside := sections
		for place := 1; place < sections-1; place++ {
			for first := range sections {
				for second := max(first, place) + 1; second < sections; second++ {
					to, on := rowDown(second, place), rowDown(place, 0)
					back := slices.Concat(to, []int{aside, place}, on)
					if len(back) <= impl.MaxPath {
						checkMeeting(t, meeting(sections, first, second, back), sections, first < place)
					}
					checkMeeting(t, meeting(sections, first, second, slices.Concat(to, []int{aside}, on)), sections, first < place)
					checkMeeting(t, meeting(sections, first, second, append(to, aside)), sections, first < place)
					instead := slices.Concat(to[:len(to)-1], []int{aside}, on)
					checkMeeting(t, meeting(sections, first, second, instead), sections, first <= place)
					safe += count(first < place)
				}
			}
		}
	}
	if safe < 100 {
		t.Errorf("%d only", safe)
	}
}

// The first train may go on up to the section just ahead of the place, and no further while the other one is not aside.
func TestUpToJustAheadOfThePlace(t *testing.T) {
	for sections := 3; sections <= 8; sections++ {
		for place := 1; place < sections-1; place++ {
			end := sections - 1
			s := meeting(sections, 0, end, slices.Concat(rowDown(end, place), []int{sections}, rowDown(place, 0)))
			for at := range place {
				if impl.Safe(s) != true || slices.Contains(impl.Allowed(s), 3) != (at < place-1) || !slices.Contains(impl.Moves(s), 3) {
					t.Fatalf("row of %d, aside at %d, the first at %d: Safe %v, Allowed %v", sections, place, at, impl.Safe(s), impl.Allowed(s))
				}
				s = impl.Step(s, 3)
			}
			if impl.Safe(s) || impl.Solve(s).Ok {
				t.Errorf("row of %d: safe on %d", sections, place)
			}
		}
	}
}
