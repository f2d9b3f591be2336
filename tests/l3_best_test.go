package tests

import (
	"fmt"
	"math"
	"slices"
	"testing"

	"loop.example/regulator/impl"
)

// mostMoves is as many as 5 trains with paths of 8 have.
const mostMoves = impl.MaxTrains * (impl.MaxPath + 1)

func weighed(s impl.State, weights ...int) impl.State {
	s = deepCopy(s)
	for i, weight := range weights {
		s.Trains[i].Weight = weight
	}
	return s
}

// wide is long with room for all everywhere: nobody is in anybody's way.
func wide(weights ...int) impl.State {
	s := weighed(long(), weights...)
	s.Room = rooms(40, 5)
	return s
}

// runs is the moves of trains that do all theirs one after the other.
func runs(moves int, trains ...int) []int {
	var all []int
	for _, name := range trains {
		all = append(all, slices.Repeat([]int{name}, moves)...)
	}
	return all
}

func sameBest(a, b impl.Best) bool {
	return a.Ok == b.Ok && a.Cost == b.Cost && slices.Equal(a.Moves, b.Moves)
}

func TestSolve(t *testing.T) {
	one := rooms(9, 1)
	five := []int{0, 1, 500, 999, 1000}
	for _, c := range []struct {
		name  string
		s     impl.State
		cost  int
		moves []int
	}{
		{"no trains", with(rooms(1, 1), nil), 0, nil},
		{"no trains, 40 sections", with(rooms(40, 5), []int{}, []impl.Train{}...), 0, nil},
		{"empty path, weight 1", with(rooms(1, 1), []int{1000}, train(0)), 1, []int{1000}},
		{"empty path, weight 100", weighed(with(rooms(1, 1), []int{0}, train(0)), 100), 100, []int{0}},
		{"one alone, path of 8", walker(8), 9, runs(9, 0)},
		{"one alone, path of 8, weight 100", weighed(walker(8), 100), 900, runs(9, 0)},
		{"all leave, as heavy", crowd(5, 5), 5 + 4 + 3 + 2 + 1, []int{0, 1, 2, 3, 4}},
		{"the heavy one leaves first", weighed(crowd(2, 2), 1, 100), 101 + 1, []int{1, 0}},
		{"by their weight", weighed(crowd(5, 5), 3, 1, 100, 2, 50), 156 + 56 + 6 + 3 + 1, []int{2, 4, 0, 3, 1}},
		{"a light one waits for a heavy one's way", weighed(with(one, []int{1, 2}, train(0, 1), train(2, 3, 4)), 1, 2), 3*3 + 1*2, []int{2, 2, 2, 1, 1}},
		{"short ahead of heavy", weighed(with(one, []int{1, 2}, train(0), train(2, 3, 4)), 1, 2), 3 + 3*2, []int{1, 2, 2, 2}},
		{"wide, as heavy", wide(), 9 * (5 + 4 + 3 + 2 + 1), runs(9, five...)},
		{"wide, weights of 1 and 100", wide(1, 100, 1, 100, 1), 9 * (203 + 103 + 3 + 2 + 1), runs(9, 1, 999, 0, 500, 1000)},
		{"wide, all of weight 100", wide(100, 100, 100, 100, 100), 900 * (5 + 4 + 3 + 2 + 1), runs(9, five...)},
		// all but the last wait for one move of the next one, which is one more move while they are there
		{"5 long paths", long(), 9*(5+4+3+2+1) + 4, slices.Concat(
			runs(7, 0), runs(1, 1), runs(2, 0),
			runs(6, 1), runs(1, 500), runs(2, 1),
			runs(6, 500), runs(1, 999), runs(2, 500),
			runs(6, 999), runs(1, 1000), runs(2, 999), runs(8, 1000))},
		{"one waits for the other to leave", with(one, []int{3, 4}, train(0, 1), train(1)), 2 + 1 + 1, []int{4, 3, 3}},
		{"heavy, and waits", weighed(with(one, []int{3, 4}, train(0, 1), train(1, 2, 3)), 100, 1), 101*3 + 1*2, []int{4, 3, 3, 4, 4}},
		{"goes aside for it", weighed(aside(1), 100, 1), 101*5 + 1*4, []int{8, 8, 6, 6, 6, 8, 8, 8, 8}},
		{"one move leads home alone", weighed(with(one, []int{1, 2}, train(0, 1, 3), train(2, 1, 0)), 1, 100), 101*5 + 1, []int{1, 1, 2, 2, 2, 1}},
	} {
		best := impl.Solve(c.s)
		if want := (impl.Best{Ok: true, Cost: c.cost, Moves: c.moves}); !sameBest(best, want) {
			t.Errorf("%s: %v, not %v", c.name, best, want)
		}
		if got := impl.Cost(c.s, c.moves); got != c.cost {
			t.Errorf("%s: Cost %d, not %d", c.name, got, c.cost)
		}
	}
}

// Each state has another order that costs as much, which parts from the one that is told at that place.
func TestSolveOfAsCheapOrders(t *testing.T) {
	one := rooms(9, 1)
	for _, c := range []struct {
		name  string
		s     impl.State
		moves []int
		other []int
		parts int
	}{
		{"at once", crowd(2, 2), []int{0, 1}, []int{1, 0}, 0},
		{"short and light, or long and heavy", weighed(with(one, []int{1, 2}, train(0), train(2, 3)), 1, 2), []int{1, 2, 2}, []int{2, 2, 1}, 0},
		{"long and heavy, or short and light", weighed(with(one, []int{1, 2}, train(2, 3), train(0)), 2, 1), []int{1, 1, 2}, []int{2, 1, 1}, 0},
		{"behind a heavy one", weighed(with(one, []int{4, 5, 6}, train(0, 1), train(2, 3), train(4, 5)), 1, 1, 100), runs(2, 6, 4, 5), runs(2, 6, 5, 4), 2},
		{"the last two moves", weighed(crowd(5, 5), 1, 4, 3, 2, 1), []int{1, 2, 3, 0, 4}, []int{1, 2, 3, 4, 0}, 3},
		{"the lower one cannot begin", weighed(with([]int{1, 2}, []int{1, 2, 3}, train(0, 1), train(1), train(1)), 2, 1, 1), []int{2, 1, 1, 3}, []int{2, 3, 1, 1}, 1},
		{"the lower one must not begin", weighed(aside(1), 1, 4), []int{8, 8, 6, 6, 6, 8, 8, 8, 8}, []int{8, 8, 6, 6, 8, 8, 8, 8, 6}, 4},
		{"5 long paths, the last two", wide(5, 4, 3, 2, 2), runs(9, 0, 1, 500, 999, 1000), runs(9, 0, 1, 500, 1000, 999), 27},
	} {
		best := impl.Solve(c.s)
		if !best.Ok || !slices.Equal(best.Moves, c.moves) {
			t.Errorf("%s: %v, not %v", c.name, best.Moves, c.moves)
		}
		if got := impl.Cost(c.s, c.other); got != best.Cost || got != impl.Cost(c.s, c.moves) {
			t.Errorf("%s: %d, and the other order %d", c.name, best.Cost, got)
		}
		if !slices.Equal(c.moves[:c.parts], c.other[:c.parts]) || c.moves[c.parts] >= c.other[c.parts] {
			t.Errorf("%s: the orders do not part at %d", c.name, c.parts)
		}
	}
}

// What is told for the states of chapter 2 can be done, move by move, each of them allowed, and all have left behind it.
func TestSolveTellsMovesThatAreAllowed(t *testing.T) {
	for _, c := range known() {
		best := impl.Solve(c.s)
		if !c.safe {
			if !sameBest(best, impl.Best{}) {
				t.Errorf("%s: %v", c.name, best)
			}
			continue
		}
		s, cost := c.s, 0
		for _, name := range best.Moves {
			if !slices.Contains(impl.Allowed(s), name) {
				t.Fatalf("%s: %v: %d is not allowed", c.name, best, name)
			}
			for _, x := range s.Trains {
				cost += x.Weight
			}
			s = impl.Step(s, name)
		}
		if !best.Ok || best.Cost != cost || impl.Cost(c.s, best.Moves) != cost || len(s.Trains) != 0 {
			t.Errorf("%s: %v, costs %d, and there are yet %v", c.name, best, cost, s.Trains)
		}
	}
}

func TestCost(t *testing.T) {
	two := weighed(with(rooms(3, 1), []int{4, 7}, train(0, 1, 2), train(1)), 5, 30)
	for _, c := range []struct {
		name  string
		s     impl.State
		moves []int
		want  int
	}{
		{"no trains, nil", with(rooms(1, 1), nil), nil, 0},
		{"no trains, no moves", with(rooms(40, 5), nil), []int{}, 0},
		{"no trains, a move", with(rooms(1, 1), nil), []int{0}, -1},
		{"a train, nil", crowd(1, 1), nil, -1},
		{"a train, no moves", crowd(1, 1), []int{}, -1},
		{"the one that leaves counts", weighed(crowd(1, 1), 7), []int{0}, 7},
		{"weight 100", weighed(crowd(1, 1), 100), []int{0}, 100},
		{"each that leaves counts", weighed(crowd(3, 3), 1, 10, 100), []int{0, 1, 2}, 111 + 110 + 100},
		{"another order", weighed(crowd(3, 3), 1, 10, 100), []int{2, 1, 0}, 111 + 11 + 1},
		{"the one that went on counts yet", weighed(walker(2), 3), []int{0, 0, 0}, 9},
		{"two", two, []int{7, 4, 4, 4}, 35 + 5*3},
		{"cannot be done at first", two, []int{4, 7, 4, 4}, -1},
		{"a move less", two, []int{7, 4, 4}, -1},
		{"a move more", two, []int{7, 4, 4, 4, 4}, -1},
		{"one that has left, between", two, []int{7, 7, 4, 4, 4}, -1},
		{"one that has left, for another", two, []int{7, 7, 4, 4}, -1},
		{"one that there is not, first", two, []int{5, 7, 4, 4, 4}, -1},
		{"one that there is not, between", two, []int{7, 5, 4, 4}, -1},
		{"one that there is not, last", two, []int{7, 4, 4, 4, 5}, -1},
		{"places in the list are no numbers", two, []int{1, 0, 0, 0}, -1},
		{"one is there yet", two, []int{7}, -1},
		{"stand in one another's way", weighed(aside(0), 100, 1), []int{8, 8, 8, 6, 8, 6, 6, 6, 8, 8, 8}, -1},
		{"not the cheapest", weighed(aside(0), 1, 100), []int{8, 8, 6, 6, 6, 8, 8, 6, 8, 8}, 101*8 + 100*2},
		{"leads where not all can leave", aside(1), []int{6, 8}, -1},
		{"into a full section with room for 2", with([]int{1, 2}, []int{1, 2, 3}, train(0, 1), train(1), train(1)), []int{1, 1, 2, 3}, -1},
		{"into the place of one that left", with([]int{1, 2}, []int{1, 2, 3}, train(0, 1), train(1), train(1)), []int{3, 1, 1, 2}, 3 + 2 + 2 + 1},
		{"not safe", circle(2), []int{0, 0, 10, 10}, -1},
		{"not safe, no moves", circle(5), nil, -1},
	} {
		if got := impl.Cost(c.s, c.moves); got != c.want {
			t.Errorf("%s: %d, not %d", c.name, got, c.want)
		}
	}
	for _, n := range outside(0, 1000) {
		for at := range 5 {
			moves := slices.Insert([]int{7, 4, 4, 4}, at, n)
			if got := impl.Cost(two, moves); got != -1 {
				t.Errorf("%v: %d", moves, got)
			}
			if at < 4 {
				moves = slices.Delete(moves, at+1, at+2)
			}
			if got := impl.Cost(two, moves); got != -1 {
				t.Errorf("%v: %d", moves, got)
			}
		}
	}
}

func TestCostOfManyMoves(t *testing.T) {
	s := wide(100, 100, 100, 100, 100)
	all := runs(9, 0, 1, 500, 999, 1000)
	if len(all) != mostMoves || impl.Cost(s, all) != 900*(5+4+3+2+1) {
		t.Errorf("%d moves: %d", len(all), impl.Cost(s, all))
	}
	// by turns: nobody leaves ahead of the 41st move
	turns := slices.Repeat(s.Names, 9)
	if got := impl.Cost(s, turns); got != 500*41+400+300+200+100 {
		t.Errorf("by turns: %d", got)
	}
	for _, name := range append(outside(0, 1000), s.Names...) {
		if got := impl.Cost(s, append(slices.Clone(all), name)); got != -1 {
			t.Errorf("one more, %d: %d", name, got)
		}
		if got := impl.Cost(s, append([]int{name}, all...)); got != -1 {
			t.Errorf("one more ahead, %d: %d", name, got)
		}
	}
	for n := range mostMoves {
		if got := impl.Cost(s, all[:n]); got != -1 {
			t.Errorf("%d moves: %d", n, got)
		}
	}
	for _, n := range []int{mostMoves, mostMoves + 1, 100000} {
		if impl.Cost(crowd(1, 1), make([]int, n)) != -1 || impl.Cost(with(rooms(1, 1), nil), make([]int, n)) != -1 {
			t.Errorf("%d moves", n)
		}
	}
}

// checkNoBest is what chapter 3 owes for a state that is not right, whatever the moves.
func checkNoBest(t *testing.T, name string, s impl.State) {
	t.Helper()
	if got := impl.Solve(s); !sameBest(got, impl.Best{}) {
		t.Errorf("%s: %v", name, got)
	}
	for _, moves := range [][]int{nil, {}, {0}, {1, 2}, {2, 1}, {0, 0, 10, 10}, {-1}, {math.MinInt, math.MaxInt}, make([]int, 10), make([]int, 46)} {
		if got := impl.Cost(s, moves); got != -1 {
			t.Errorf("%s: %v: %d", name, moves, got)
		}
	}
}

// Each fault is laid into a state of which the best order is known, and into one that is not safe.
func TestNoBestOrderOfAStateThatIsNotRight(t *testing.T) {
	for code, list := range faults() {
		for i, fault := range list {
			open, jam := with(rooms(40, 1), []int{1, 2}, train(0), train(1)), circle(2)
			if !impl.Solve(open).Ok || impl.Cost(open, []int{2, 1}) != 3 {
				t.Fatal("the state without the fault")
			}
			fault(&open)
			if got := impl.StateOk(open); got != code {
				t.Errorf("fault %d of code %d: %d", i, code, got)
			}
			checkNoBest(t, fmt.Sprintf("fault %d of code %d", i, code), open)
			fault(&jam)
			checkNoBest(t, fmt.Sprintf("fault %d of code %d, not safe", i, code), jam)
		}
	}
	checkNoBest(t, "zero value", impl.State{})
	checkNoBest(t, "no trains, 41 sections", with(rooms(41, 1), nil))
	checkNoBest(t, "no trains, a name", with(rooms(1, 1), []int{1}))
	checkNoBest(t, "no trains, room for 6", with(rooms(1, 6), nil))
	checkNoBest(t, "6 trains", crowd(6, 5))
	checkNoBest(t, "path of 9", walker(9))
	checkNoBest(t, "5 on room for 4", crowd(5, 4))
}
