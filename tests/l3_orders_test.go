package tests

import (
	"fmt"
	"slices"
	"testing"

	"loop.example/regulator/impl"
)

// drawnWeights gives few weights, so that many orders cost the same, and now and then the heaviest.
func drawnWeights(d *dice, s impl.State) impl.State {
	for i := range s.Trains {
		s.Trains[i].Weight = []int{1, 1, 2, 2, 3, 4, 100}[d.below(7)]
	}
	return s
}

func weightOf(s impl.State) int {
	sum := 0
	for _, x := range s.Trains {
		sum += x.Weight
	}
	return sum
}

func movesLeft(s impl.State) int {
	sum := len(s.Trains)
	for _, x := range s.Trains {
		sum += len(x.Path)
	}
	return sum
}

// tried is what is found when every order of moves is done, each by itself, without asking the program: the best one, and
// how many cost as much, and where the last of them parts from it.
type tried struct {
	best   impl.Best
	orders int
	equal  int
	latest int
}

func (r *tried) all(s impl.State, done []int, cost int) {
	if len(s.Trains) == 0 {
		r.ended(done, cost)
		return
	}
	for _, i := range movable(s) {
		r.all(stepped(s, i), append(slices.Clone(done), s.Names[i]), cost+weightOf(s))
	}
}

func (r *tried) ended(done []int, cost int) {
	r.orders++
	switch {
	case !r.best.Ok || cost < r.best.Cost:
		r.best, r.equal, r.latest = impl.Best{Ok: true, Cost: cost, Moves: done}, 0, -1
	case cost == r.best.Cost:
		r.equal++
		for i, name := range done {
			if name != r.best.Moves[i] {
				r.latest = max(r.latest, i)
				if name < r.best.Moves[i] {
					r.best.Moves = done
				}
				return
			}
		}
	}
}

func TestSolveAgainstEveryOrder(t *testing.T) {
	var safe, unsafe, choice, early, late int
	d := dice(4)
	for range 30000 {
		s := drawnWeights(&d, drawn(&d))
		if movesLeft(s) > 9 {
			continue
		}
		var r tried
		r.all(s, nil, 0)
		if got := impl.Solve(s); !sameBest(got, r.best) {
			t.Fatalf("%v: %v, not %v", s, got, r.best)
		}
		if r.best.Ok && impl.Cost(s, r.best.Moves) != r.best.Cost {
			t.Fatalf("%v: Cost %d, not %d", s, impl.Cost(s, r.best.Moves), r.best.Cost)
		}
		safe += count(r.best.Ok)
		unsafe += count(!r.best.Ok)
		choice += count(r.orders > r.equal+1)
		early += count(r.equal > 0 && r.latest == 0)
		late += count(r.equal > 0 && r.latest > 2)
	}
	if min(safe, unsafe, choice, early, late) < 100 {
		t.Errorf("too few: %d safe, %d not, %d where orders differ, %d ties at once, %d ties late", safe, unsafe, choice, early, late)
	}
}

// Every row of numbers of that many moves is asked for, those that cannot be done too.
func TestCostAgainstEveryRowOfMoves(t *testing.T) {
	var fine, refused int
	d := dice(5)
	for range 1000 {
		s := drawnWeights(&d, drawn(&d))
		if len(s.Trains) > 3 || movesLeft(s) > 5 {
			continue
		}
		for length := max(0, movesLeft(s)-1); length <= movesLeft(s)+1; length++ {
			everyRow(append(slices.Clone(s.Names), 999), nil, length, func(row []int) {
				want := costOf(s, row)
				if got := impl.Cost(s, row); got != want {
					t.Fatalf("%v: %v: %d, not %d", s, row, got, want)
				}
				fine += count(want > 0)
				refused += count(want < 0)
			})
		}
	}
	if min(fine, refused) < 200 {
		t.Errorf("too few: %d rows can be done, %d not", fine, refused)
	}
}

func everyRow(numbers, row []int, length int, ask func([]int)) {
	if len(row) == length {
		ask(row)
		return
	}
	for _, n := range numbers {
		everyRow(numbers, append(slices.Clone(row), n), length, ask)
	}
}

func costOf(s impl.State, row []int) int {
	cost := 0
	for _, name := range row {
		i := slices.Index(s.Names, name)
		if i < 0 || !slices.Contains(movable(s), i) {
			return -1
		}
		cost += weightOf(s)
		s = stepped(s, i)
	}
	if len(s.Trains) > 0 {
		return -1
	}
	return cost
}

// leastFrom is for states with more orders than can be done one by one: it keeps what each state costs from there on.
func leastFrom(s impl.State, kept map[string]impl.Best) impl.Best {
	if len(s.Trains) == 0 {
		return impl.Best{Ok: true}
	}
	key := fmt.Sprint(s.Trains, s.Names)
	if best, ok := kept[key]; ok {
		return best
	}
	var best impl.Best
	for _, i := range movable(s) {
		rest := leastFrom(stepped(s, i), kept)
		if cost := rest.Cost + weightOf(s); rest.Ok && (!best.Ok || cost < best.Cost) {
			best = impl.Best{Ok: true, Cost: cost, Moves: slices.Insert(slices.Clone(rest.Moves), 0, s.Names[i])}
		}
	}
	kept[key] = best
	return best
}

func TestSolveOfMoreMovesThanCanBeTried(t *testing.T) {
	var safe, unsafe int
	d := dice(6)
	for safe+unsafe < 500 {
		s := drawnWeights(&d, drawn(&d))
		if movesLeft(s) < 12 {
			continue
		}
		want := leastFrom(s, map[string]impl.Best{})
		if got := impl.Solve(s); !sameBest(got, want) || got.Ok != impl.Safe(s) {
			t.Fatalf("%v: %v, not %v", s, got, want)
		}
		safe += count(want.Ok)
		unsafe += count(!want.Ok)
	}
	if min(safe, unsafe) < 100 {
		t.Errorf("too few: %d safe, %d not", safe, unsafe)
	}
}

// Behind the first move of the best order the rest of it is the best order, and costs what the first move did not.
func TestTheRestOfTheBestOrderIsBest(t *testing.T) {
	d := dice(7)
	states := []impl.State{weighed(long(), 1, 100, 2, 50, 3), weighed(aside(0), 7, 3), yard()}
	for len(states) < 300 {
		if s := drawnWeights(&d, drawn(&d)); impl.Safe(s) {
			states = append(states, s)
		}
	}
	for _, s := range states {
		for best := impl.Solve(s); len(best.Moves) > 0; {
			cost := weightOf(s)
			s = impl.Step(s, best.Moves[0])
			rest := impl.Solve(s)
			if want := (impl.Best{Ok: true, Cost: best.Cost - cost, Moves: best.Moves[1:]}); !sameBest(rest, want) {
				t.Fatalf("%v: %v, not %v", s, rest, want)
			}
			best = rest
		}
		if len(s.Trains) != 0 {
			t.Fatalf("there yet: %v", s)
		}
	}
}

func withRoom(s impl.State, section int) impl.State {
	s = deepCopy(s)
	s.Room[section]++
	return s
}

func withoutLast(s impl.State) impl.State {
	last := len(s.Trains) - 1
	s = deepCopy(s)
	s.Trains, s.Names = s.Trains[:last], s.Names[:last]
	return s
}

// checkNoWorse tells whether what is eased costs less, or is safe where the first was not.
func checkNoWorse(t *testing.T, s, eased impl.State) bool {
	t.Helper()
	first, then := impl.Solve(s), impl.Solve(eased)
	if impl.Safe(s) != first.Ok || impl.Safe(eased) != then.Ok {
		t.Fatalf("%v: Solve and Safe do not agree", s)
	}
	if first.Ok && (!then.Ok || then.Cost > first.Cost) {
		t.Fatalf("%v: %v; eased, %v: %v", s, first, eased, then)
	}
	return !first.Ok && then.Ok || first.Ok && then.Cost < first.Cost
}

func TestMoreRoomOrATrainLessCostsNoMore(t *testing.T) {
	states := []impl.State{yard(), behindOne(2), twoAhead(1), twoAhead(2), crowd(4, 4), crowd(5, 5), walker(8), weighed(aside(1), 100, 1), circle(5)}
	d := dice(8)
	for range 500 {
		states = append(states, drawnWeights(&d, drawn(&d)))
	}
	var wider, emptier, freed int
	for _, s := range states {
		for section, room := range s.Room {
			if room < impl.MaxTrains {
				better := checkNoWorse(t, s, withRoom(s, section))
				wider += count(better && impl.Safe(s))
				freed += count(better && !impl.Safe(s))
			}
		}
		for rest := s; len(rest.Trains) > 0; rest = withoutLast(rest) {
			emptier += count(checkNoWorse(t, rest, withoutLast(rest)))
		}
	}
	if min(wider, emptier, freed) < 100 {
		t.Errorf("too few: %d cheaper with more room, %d with a train less, %d safe with more room", wider, emptier, freed)
	}
}

// Room by room up to room for all, and train by train down to none: each costs no more than the one before it.
func TestEveryStepOfEasing(t *testing.T) {
	for _, s := range []impl.State{weighed(aside(1), 100, 1), twoAhead(1), weighed(behindOne(2), 3, 50, 100), circle(5)} {
		for section := range s.Room {
			for s.Room[section] < impl.MaxTrains {
				eased := withRoom(s, section)
				checkNoWorse(t, s, eased)
				s = eased
			}
			if got := impl.Solve(withRoom(s, section)); !sameBest(got, impl.Best{}) {
				t.Errorf("room for %d: %v", impl.MaxTrains+1, got)
			}
		}
		for len(s.Trains) > 0 {
			checkNoWorse(t, s, withoutLast(s))
			s = withoutLast(s)
		}
		if got := impl.Solve(s); !sameBest(got, impl.Best{Ok: true}) {
			t.Errorf("no trains: %v", got)
		}
	}
}
