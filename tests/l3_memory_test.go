package tests

import (
	"slices"
	"testing"

	"loop.example/regulator/impl"
)

// rowsFor is moves to ask the price of: the best ones, and some that cannot be done.
func rowsFor(s impl.State) [][]int {
	rows := [][]int{nil, {2, 5}, slices.Repeat([]int{5}, mostMoves), slices.Repeat([]int{5}, mostMoves+1)}
	return append(rows, impl.Solve(s).Moves)
}

func TestBestWritesNothingIntoItsArguments(t *testing.T) {
	for i, s := range allStates() {
		for j, row := range rowsFor(s) {
			s, moves := spaced(deepCopy(s)), roomyInts(row)
			before := deepCopy(whole(s))
			impl.Solve(s)
			impl.Cost(s, moves)
			if got := whole(s); !same(got, before) {
				t.Errorf("state %d: %v, was %v", i, got, before)
			}
			if want := append(slices.Clone(row), mark, mark, mark); !slices.Equal(moves[:len(want)], want) {
				t.Errorf("state %d: row %d: %v, was %v", i, j, moves[:len(want)], want)
			}
		}
	}
}

// The answer of the first call is written over ahead of the second: nothing of it is kept.
func TestBestIsTheSameAgain(t *testing.T) {
	for i, s := range allStates() {
		best := impl.Solve(s)
		want := impl.Best{Ok: best.Ok, Cost: best.Cost, Moves: slices.Clone(best.Moves)}
		for j := range best.Moves[:cap(best.Moves)] {
			best.Moves[:cap(best.Moves)][j] = mark
		}
		if got := impl.Solve(s); !sameBest(got, want) {
			t.Errorf("state %d: %v, then %v", i, want, got)
		}
		for _, row := range rowsFor(s) {
			if impl.Cost(s, row) != impl.Cost(s, row) {
				t.Errorf("state %d: %v", i, row)
			}
		}
	}
}

// A state with the same trains, told after others, has the same answer: none hangs on what was asked before.
func TestBestHangsOnItsArgumentAlone(t *testing.T) {
	states := allStates()
	var first []impl.Best
	for _, s := range states {
		first = append(first, impl.Solve(s))
	}
	for i := range slices.Backward(states) {
		if got := impl.Solve(deepCopy(states[i])); !sameBest(got, first[i]) {
			t.Errorf("state %d: %v, then %v", i, first[i], got)
		}
	}
}

// In the first state the best order is the list of Names, which would do for an answer.
func TestSolveSharesNoMemory(t *testing.T) {
	for i, s := range []impl.State{crowd(5, 5), walker(8), yard(), long(), aside(0)} {
		s = spaced(s)
		got, again := impl.Solve(s), impl.Solve(s)
		if i == 0 && !slices.Equal(got.Moves, s.Names) || len(got.Moves) == 0 {
			t.Fatalf("state %d: %v", i, got)
		}
		numbered(t, "solve", append(intLists(s), got.Moves[:cap(got.Moves)], again.Moves[:cap(again.Moves)]))
	}
}
