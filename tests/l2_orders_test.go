package tests

import (
	"fmt"
	"slices"
	"testing"

	"loop.example/regulator/impl"
)

// dice tells the same numbers in every run.
type dice uint64

func (d *dice) below(n int) int {
	*d = *d*6364136223846793005 + 1442695040888963407
	return int(uint64(*d) >> 33 % uint64(n))
}

// drawn is a state that is right: few sections, most of them with room for one, so that trains are in one another's way.
func drawn(d *dice) impl.State {
	s := impl.State{}
	var on [9]int
	for range 2 + d.below(6) {
		s.Room = append(s.Room, 1+d.below(5)/4)
	}
	name := d.below(3)
	for range d.below(9) {
		at := d.below(len(s.Room))
		if on[at] == s.Room[at] || len(s.Trains) == impl.MaxTrains {
			continue
		}
		on[at]++
		s.Trains = append(s.Trains, drawnTrain(d, at, len(s.Room)))
		s.Names = append(s.Names, name)
		name += 1 + d.below(3)
	}
	return s
}

func drawnTrain(d *dice, at, sections int) impl.Train {
	t := train(at)
	before := at
	for range d.below(6) {
		before = (before + 1 + d.below(sections-1)) % sections
		t.Path = append(t.Path, before)
	}
	return t
}

// movable is the places in the list of the trains that can move, counted anew.
func movable(s impl.State) []int {
	var movers []int
	for i, x := range s.Trains {
		if len(x.Path) == 0 || len(onSection(s, x.Path[0])) < s.Room[x.Path[0]] {
			movers = append(movers, i)
		}
	}
	return movers
}

func onSection(s impl.State, section int) []int {
	var names []int
	for i, x := range s.Trains {
		if x.At == section {
			names = append(names, s.Names[i])
		}
	}
	return names
}

// canEmpty does every order of moves there is, without asking the program.
func canEmpty(s impl.State, dead map[string]bool) bool {
	key := fmt.Sprint(s.Trains)
	if len(s.Trains) == 0 {
		return true
	}
	if dead[key] {
		return false
	}
	for _, i := range movable(s) {
		if canEmpty(stepped(s, i), dead) {
			return true
		}
	}
	dead[key] = true
	return false
}

func TestSafeAndAllowedAgainstEveryOrder(t *testing.T) {
	var safe, unsafe, refused int
	d := dice(1)
	for range 10000 {
		s := drawn(&d)
		if impl.StateOk(s) != 0 {
			t.Fatalf("not right: %v", s)
		}
		dead := map[string]bool{}
		want := canEmpty(s, dead)
		if got := impl.Safe(s); got != want {
			t.Fatalf("%v: Safe %v", s, got)
		}
		var allowed []int
		for _, i := range movable(s) {
			if canEmpty(stepped(s, i), dead) {
				allowed = append(allowed, s.Names[i])
			} else if want {
				refused++
			}
		}
		if got := impl.Allowed(s); !slices.Equal(got, allowed) {
			t.Fatalf("%v: Allowed %v, not %v", s, got, allowed)
		}
		if want {
			safe++
		} else {
			unsafe++
		}
	}
	if min(safe, unsafe, refused) < 200 {
		t.Errorf("too few: %d safe, %d not, %d moves refused", safe, unsafe, refused)
	}
}

// From a safe state on every way of allowed moves is gone, to its end; and no other move leads to a safe state.
func TestAllowedMovesStaySafeAndAllLeave(t *testing.T) {
	d := dice(2)
	starts := []impl.State{yard(), behindOne(2), twoAhead(2), aside(0)}
	for len(starts) < 300 {
		if s := drawn(&d); impl.Safe(s) {
			starts = append(starts, s)
		}
	}
	refused := 0
	for _, start := range starts {
		seen := map[string]bool{}
		var visit func(s impl.State)
		visit = func(s impl.State) {
			if key := fmt.Sprint(s.Trains); seen[key] {
				return
			} else {
				seen[key] = true
			}
			allowed := impl.Allowed(s)
			if !impl.Safe(s) || (len(allowed) == 0) != (len(s.Trains) == 0) {
				t.Fatalf("%v: Safe %v, Allowed %v", s, impl.Safe(s), allowed)
			}
			for _, name := range impl.Moves(s) {
				behind := impl.Step(s, name)
				if slices.Contains(allowed, name) {
					visit(behind)
				} else if refused++; canEmpty(behind, map[string]bool{}) || impl.Safe(behind) {
					t.Fatalf("%v: %d is not allowed, and all can leave behind it", s, name)
				}
			}
		}
		visit(start)
	}
	if refused < 200 {
		t.Errorf("%d moves refused only", refused)
	}
}

// Always the first that is allowed: as many moves as there are sections on the Paths, and one for each train.
func TestTheFirstAllowedLeadsToTheEnd(t *testing.T) {
	for _, s := range []impl.State{long(), walker(8), crowd(5, 5), yard(), aside(0)} {
		count := len(s.Trains)
		for _, x := range s.Trains {
			count += len(x.Path)
		}
		for range count {
			allowed := impl.Allowed(s)
			if len(allowed) == 0 {
				t.Fatalf("%v: nobody is allowed", s)
			}
			s = impl.Step(s, allowed[0])
		}
		if len(s.Trains) != 0 || len(s.Room) == 0 || !impl.Safe(s) || len(impl.Allowed(s)) != 0 {
			t.Error(s)
		}
	}
}

// firstRing tries the rows of trains by their length, and those of one length by their numbers: a way by which a train is
// come to first is the lowest of the shortest, since Waits ascends.
func firstRing(s impl.State) []int {
	waits := map[int][]int{}
	for i, x := range s.Trains {
		if !slices.Contains(movable(s), i) {
			waits[s.Names[i]] = onSection(s, x.Path[0])
		}
	}
	for length := 1; length <= len(s.Trains); length++ {
		if row := closedRow(s.Names, waits, nil, length); row != nil {
			return row
		}
	}
	return nil
}

func closedRow(names []int, waits map[int][]int, row []int, length int) []int {
	if len(row) == length {
		if slices.Contains(waits[row[length-1]], row[0]) {
			return slices.Clone(row)
		}
		return nil
	}
	for _, n := range names {
		if len(row) > 0 && (!slices.Contains(waits[row[len(row)-1]], n) || slices.Contains(row, n)) {
			continue
		}
		if got := closedRow(names, waits, append(row, n), length); got != nil {
			return got
		}
	}
	return nil
}

func TestStuckWaitsAndRingAgainstTheirWords(t *testing.T) {
	var stuck, ringed, ringSafe, allMove int
	d := dice(3)
	for range 20000 {
		s := drawn(&d)
		movers := movable(s)
		for i, name := range s.Names {
			var want []int
			if !slices.Contains(movers, i) {
				want = onSection(s, s.Trains[i].Path[0])
			}
			if got := impl.Waits(s, name); !slices.Equal(got, want) {
				t.Fatalf("%v: Waits %d: %v, not %v", s, name, got, want)
			}
		}
		nobody := len(movers) == 0 && len(s.Trains) > 0
		if got := impl.Stuck(s); got != nobody {
			t.Fatalf("%v: Stuck %v", s, got)
		}
		ring := impl.Ring(s)
		if want := firstRing(s); !slices.Equal(ring, want) {
			t.Fatalf("%v: Ring %v, not %v", s, ring, want)
		}
		if nobody && len(ring) == 0 || len(movers) == len(s.Trains) && len(ring) > 0 {
			t.Fatalf("%v: Ring %v, and %d of %d can move", s, ring, len(movers), len(s.Trains))
		}
		stuck += count(nobody)
		ringed += count(len(ring) > 2)
		ringSafe += count(len(ring) > 0 && impl.Safe(s))
		allMove += count(len(s.Trains) > 1 && len(movers) == len(s.Trains))
	}
	if min(stuck, ringed, ringSafe, allMove) < 200 {
		t.Errorf("too few: %d stuck, %d rings of more than 2, %d rings in safe states, %d where all can move", stuck, ringed, ringSafe, allMove)
	}
}

func count(yes bool) int {
	if yes {
		return 1
	}
	return 0
}
