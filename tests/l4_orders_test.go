package tests

import (
	"slices"
	"testing"

	"loop.example/regulator/impl"
)

// guarded does what chapter 4 says on copies, without asking the program.
func guarded(s impl.State, asks []int) []impl.Asked {
	if !canEmpty(s, map[string]bool{}) {
		return nil
	}
	var told []impl.Asked
	for _, name := range asks {
		code, i := 0, slices.Index(s.Names, name)
		switch {
		case i < 0:
			code = 1
		case !slices.Contains(movable(s), i):
			code = 2
		case !canEmpty(stepped(s, i), map[string]bool{}):
			code = 3
		default:
			s = stepped(s, i)
		}
		told = append(told, impl.Asked{Code: code, State: s})
	}
	return told
}

// drawnAsks is mostly the numbers of trains, some of which have left by then, and now and then another number.
func drawnAsks(d *dice, s impl.State) []int {
	var asks []int
	for range d.below(40) {
		n := d.below(20) - 2
		if len(s.Names) > 0 && d.below(8) > 0 {
			n = s.Names[d.below(len(s.Names))]
		}
		asks = append(asks, n)
	}
	return asks
}

func TestGuardAgainstItsWords(t *testing.T) {
	var codes [4]int
	var none, left int
	d := dice(9)
	for range 3000 {
		s := drawnWeights(&d, drawn(&d))
		asks := drawnAsks(&d, s)
		got, want := impl.Guard(s, asks), guarded(s, asks)
		if !sameTold(got, want) {
			t.Fatalf("%v: %v: %v, not %v", s, asks, got, want)
		}
		none += count(len(asks) > 0 && len(want) == 0)
		for i, a := range want {
			codes[a.Code]++
			left += count(a.Code == 1 && slices.Contains(s.Names, asks[i]))
		}
	}
	if min(codes[0], codes[1], codes[2], codes[3], none, left) < 200 {
		t.Errorf("too few: codes %v, %d states without an answer, %d asks of one that has left", codes, none, left)
	}
}

// Behind every answer each train asks: those that are allowed there and no others move, by Allowed of that state.
func TestGuardRefusesWhatIsNotAllowedAndNothingElse(t *testing.T) {
	var refused, stopped int
	d := dice(10)
	starts := []impl.State{yard(), behindOne(2), twoAhead(2), aside(0), aside(1), mayNotCross(), crowd(5, 5)}
	for len(starts) < 300 {
		if s := drawn(&d); impl.Safe(s) {
			starts = append(starts, s)
		}
	}
	for _, start := range starts {
		asks := drawnAsks(&d, start)
		states := []impl.State{start}
		for _, a := range impl.Guard(start, asks) {
			states = append(states, a.State)
		}
		for i, s := range states {
			allowed, moves := impl.Allowed(s), impl.Moves(s)
			for _, name := range start.Names {
				told := impl.Guard(start, append(slices.Clone(asks[:i]), name))
				code := told[i].Code
				if (code == 0) != slices.Contains(allowed, name) || (code == 1) == slices.Contains(s.Names, name) {
					t.Fatalf("%v: train %d: %d, allowed are %v", s, name, code, allowed)
				}
				if (code == 0 || code == 3) != slices.Contains(moves, name) {
					t.Fatalf("%v: train %d: %d, movable are %v", s, name, code, moves)
				}
				refused += count(code == 3)
				stopped += count(code == 2)
			}
		}
	}
	if min(refused, stopped) < 200 {
		t.Errorf("too few: %d refused, %d cannot move", refused, stopped)
	}
}

// All ask by turns, as often as there are moves: as long as somebody is there somebody may move, so that all have left.
func TestAllLeaveWhenAllAskByTurns(t *testing.T) {
	d := dice(11)
	starts := []impl.State{long(), wide(), walker(8), crowd(5, 5), yard(), behindOne(2), twoAhead(2), aside(0), mayNotCross(), with(rooms(40, 1), nil)}
	for len(starts) < 1000 {
		if s := drawn(&d); impl.Safe(s) {
			starts = append(starts, s)
		}
	}
	for _, s := range starts {
		for _, names := range [][]int{s.Names, reversed(s.Names)} {
			asks := slices.Repeat(names, movesLeft(s))
			told := impl.Guard(s, asks)
			checkStates(t, "by turns", s, asks, told)
			if len(told) == 0 {
				continue
			}
			if last := told[len(told)-1].State; !same(last, with(s.Room, nil)) {
				t.Fatalf("%v: there yet: %v", s, last)
			}
			for i, a := range told {
				if turn := told[i-i%len(names):][:len(names)]; len(a.State.Trains) > 0 && !slices.Contains(codesOf(turn), 0) {
					t.Fatalf("%v: nobody moves in the turn of ask %d", s, i)
				}
			}
		}
	}
}

func reversed(list []int) []int {
	list = slices.Clone(list)
	slices.Reverse(list)
	return list
}

// The best order is never refused, and the guard comes where Step does.
func TestTheBestOrderIsNotRefused(t *testing.T) {
	for _, s := range []impl.State{long(), weighed(long(), 1, 100, 2, 50, 3), wide(), aside(0), yard(), mayNotCross(), walker(8)} {
		moves := impl.Solve(s).Moves
		told := impl.Guard(s, moves)
		checkStates(t, "best", s, moves, told)
		if got := codesOf(told); !slices.Equal(got, make([]int, movesLeft(s))) {
			t.Errorf("%v: %v", s, got)
		}
	}
}

// 5 trains with paths of 8 over 40 sections, to the last of the asks: 45 moves, and all that comes after is refused.
func TestGuardOfLongPaths(t *testing.T) {
	s := long()
	asks := slices.Repeat(s.Names, 100)
	told := impl.Guard(s, asks)
	checkStates(t, "long", s, asks, told)
	moved := 0
	for i, a := range told {
		moved += count(a.Code == 0)
		if len(a.State.Trains) == 0 && a.Code != 0 && a.Code != 1 {
			t.Errorf("ask %d: %v", i, a)
		}
	}
	if moved != mostMoves || len(told) != impl.MaxAsks {
		t.Errorf("%d moves in %d asks", moved, len(told))
	}
	if got := impl.Guard(against(), asks); len(got) != 0 {
		t.Error("not safe")
	}
}
