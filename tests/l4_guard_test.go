package tests

import (
	"fmt"
	"math"
	"runtime"
	"slices"
	"testing"

	"loop.example/regulator/impl"
)

// mayNotCross is two trains of which the second one can go first, and must not: it would stand in the first one's way.
func mayNotCross() impl.State {
	return with(rooms(4, 1), []int{1, 2}, train(0, 1, 3), train(2, 1, 0))
}

func codesOf(told []impl.Asked) []int {
	var codes []int
	for _, a := range told {
		codes = append(codes, a.Code)
	}
	return codes
}

func sameTold(a, b []impl.Asked) bool {
	return slices.EqualFunc(a, b, func(x, y impl.Asked) bool { return x.Code == y.Code && same(x.State, y.State) })
}

// checkStates holds the states of the answers against the codes: a move's by Step, a refusal's the one ahead of it.
func checkStates(t *testing.T, name string, s impl.State, asks []int, told []impl.Asked) {
	t.Helper()
	if len(told) != len(asks) {
		t.Fatalf("%s: %d answers to %d", name, len(told), len(asks))
	}
	for i, a := range told {
		if a.Code == 0 {
			s = impl.Step(s, asks[i])
		}
		if !same(a.State, s) || !impl.Safe(a.State) {
			t.Fatalf("%s: ask %d, train %d: %v, not %v", name, i, asks[i], a, s)
		}
	}
}

func TestGuardTellsTheCodes(t *testing.T) {
	for _, c := range []struct {
		name  string
		s     impl.State
		asks  []int
		codes []int
	}{
		{"nil", yard(), nil, nil},
		{"no asks", yard(), []int{}, nil},
		{"no trains, no asks", with(rooms(1, 1), nil), nil, nil},
		{"no trains", with(rooms(1, 1), nil), []int{0, 1, -1}, []int{1, 1, 1}},
		{"leaves, and asks again", crowd(1, 1), []int{0, 0, 0}, []int{0, 1, 1}},
		{"has left, another is there", crowd(2, 2), []int{1, 1, 0, 1, 0}, []int{0, 1, 0, 1, 1}},
		{"has left a section that is full anew", with(rooms(2, 1), []int{3, 4}, train(0, 1), train(1)), []int{4, 3, 4, 3, 4, 3}, []int{0, 0, 1, 0, 1, 1}},
		{"goes on and leaves", walker(8), runs(11, 0), []int{0, 0, 0, 0, 0, 0, 0, 0, 0, 1, 1}},
		{"waits for a full section", yard(), []int{9, 9, 5, 9}, []int{2, 2, 0, 0}},
		{"numbers between and beside", yard(), []int{1, 3, 4, 10, 12, 1000}, []int{1, 1, 1, 1, 1, 1}},
		{"places in the list are no numbers", yard(), []int{0, 1, 3}, []int{1, 1, 1}},
		{"all of the yard", yard(), []int{2, 11, 9, 5, 2, 9, 9, 2, 9, 2, 2, 11, 11}, []int{0, 0, 2, 0, 0, 2, 2, 0, 0, 0, 1, 0, 1}},
		{"may not cross", mayNotCross(), []int{2, 2, 1, 2, 1, 2, 2, 1, 2, 1}, []int{3, 3, 0, 2, 0, 0, 0, 0, 0, 1}},
		{"aside, just ahead", aside(1), []int{6, 8, 6, 8, 6, 8, 6, 6, 6, 8, 8, 8}, []int{3, 0, 2, 0, 0, 2, 0, 0, 1, 0, 0, 0}},
		{"room for two, filled", behindOne(2), []int{1, 2, 3, 2, 1, 2, 1, 2}, []int{2, 2, 0, 2, 0, 0, 0, 0}},
		{"room for one more", behindOne(3), []int{2, 1, 3, 3, 2, 1, 2}, []int{2, 0, 0, 1, 0, 0, 0}},
		{"room for two ahead of a room for one", twoAhead(2), []int{1, 2, 3, 4, 3, 1, 2, 1}, []int{2, 2, 2, 0, 0, 0, 2, 0}},
		{"all of a full section", crowd(5, 5), []int{4, 0, 5, 2, 2, 1, 3, 0}, []int{0, 0, 1, 0, 1, 0, 0, 1}},
		{"0 and 1000", with(rooms(2, 1), []int{0, 1000}, train(0), train(1)), []int{1000, 999, 1000, 0, 1, 0}, []int{0, 1, 1, 0, 1, 1}},
	} {
		told := impl.Guard(c.s, c.asks)
		if got := codesOf(told); !slices.Equal(got, c.codes) {
			t.Errorf("%s: %v, not %v", c.name, got, c.codes)
		}
		checkStates(t, c.name, c.s, c.asks, told)
	}
}

// The states are written out: nothing of the program is asked for them.
func TestGuardTellsTheStates(t *testing.T) {
	four := rooms(4, 1)
	first := mayNotCross()
	on1 := with(four, []int{1, 2}, train(1, 3), train(2, 1, 0))
	on3 := with(four, []int{1, 2}, train(3), train(2, 1, 0))
	alone := with(four, []int{2}, train(2, 1, 0))
	end := with(four, []int{2}, train(0))
	got := impl.Guard(first, []int{2, 7, 1, 2, 1, 1, 1, 2, 2, 2, 2})
	want := []impl.Asked{
		{Code: 3, State: first}, {Code: 1, State: first}, {Code: 0, State: on1}, {Code: 2, State: on1}, {Code: 0, State: on3},
		{Code: 0, State: alone}, {Code: 1, State: alone}, {Code: 0, State: with(four, []int{2}, train(1, 0))}, {Code: 0, State: end},
		{Code: 0, State: with(four, nil)}, {Code: 1, State: with(four, nil)},
	}
	if !sameTold(got, want) {
		t.Errorf("%v, not %v", got, want)
	}
}

func TestGuardKeepsTheWeights(t *testing.T) {
	s := weighed(mayNotCross(), 100, 7)
	for i, a := range impl.Guard(s, []int{2, 1, 2, 1, 2}) {
		if a.State.Trains[0].Weight != 100 || a.State.Trains[1].Weight != 7 {
			t.Errorf("ask %d: %v", i, a)
		}
	}
}

// Each ask has several codes that would do for it; the lowest of them is told.
func TestWhichCodeComesFirst(t *testing.T) {
	for _, c := range []struct {
		name  string
		s     impl.State
		ahead []int
		ask   int
		want  int
	}{
		// its number is gone, and the section that it was on is full again
		{"has left, and could not move", with(rooms(2, 2), []int{1, 2, 3}, train(0, 1), train(1), train(1)), []int{2, 1}, 2, 1},
		{"never there, and nobody can move there", yard(), nil, 4, 1},
		{"never there, and one move is refused", mayNotCross(), nil, 3, 1},
		// if there were room, its move would lead where not all can leave
		{"cannot move, and must not", mayNotCross(), []int{1}, 2, 2},
		{"cannot move, and must not, aside", aside(1), []int{8}, 6, 2},
		{"can move, and must not", mayNotCross(), nil, 2, 3},
		{"can move, and must not, aside", aside(0), []int{6}, 6, 3},
		{"can move, and may", aside(0), nil, 6, 0},
	} {
		asks := append(slices.Clone(c.ahead), c.ask)
		codes := codesOf(impl.Guard(c.s, asks))
		want := append(make([]int, len(c.ahead)), c.want)
		if !slices.Equal(codes, want) {
			t.Errorf("%s: %v, not %v", c.name, codes, want)
		}
	}
}

func TestGuardOfManyAsks(t *testing.T) {
	for name, s := range map[string]impl.State{"no trains": with(rooms(1, 1), nil), "yard": yard(), "long": long()} {
		for _, train := range []int{0, 2, 9, 77} {
			for _, n := range []int{0, 1, impl.MaxAsks - 1, impl.MaxAsks} {
				asks := slices.Repeat([]int{train}, n)
				checkStates(t, name, s, asks, impl.Guard(s, asks))
			}
			for _, n := range []int{impl.MaxAsks + 1, impl.MaxAsks + 2, 2 * impl.MaxAsks, 100000} {
				if got := impl.Guard(s, slices.Repeat([]int{train}, n)); len(got) != 0 {
					t.Errorf("%s: %d asks: %d answers", name, n, len(got))
				}
			}
		}
	}
	if impl.MaxAsks != 500 {
		t.Error(impl.MaxAsks)
	}
}

// The last of 500 asks is answered as the first one would be.
func TestTheLastOfManyAsks(t *testing.T) {
	for name, c := range map[string]struct{ ask, code int }{"moves": {1, 0}, "no train": {3, 1}, "must not": {2, 3}} {
		asks := append(slices.Repeat([]int{2}, impl.MaxAsks-1), c.ask)
		told := impl.Guard(mayNotCross(), asks)
		checkStates(t, name, mayNotCross(), asks, told)
		if got := told[impl.MaxAsks-1].Code; got != c.code || told[impl.MaxAsks-2].Code != 3 {
			t.Errorf("%s: %d", name, got)
		}
	}
}

func TestGuardOfNumbersFarOff(t *testing.T) {
	for name, s := range map[string]impl.State{"no trains": with(rooms(1, 1), nil), "yard": yard(), "long": long(), "aside": aside(1)} {
		asks := outside(0, 1000)
		told := impl.Guard(s, asks)
		checkStates(t, name, s, asks, told)
		if got, want := codesOf(told), slices.Repeat([]int{1}, len(asks)); !slices.Equal(got, want) {
			t.Errorf("%s: %v", name, got)
		}
	}
}

// checkNoGuard is what is owed for a first state that is not safe, whatever the asks.
func checkNoGuard(t *testing.T, name string, s impl.State) {
	t.Helper()
	for _, asks := range [][]int{nil, {}, {0}, {1, 2}, {10, 0}, {9}, {-1}, {math.MinInt, math.MaxInt}, make([]int, 500), make([]int, 501)} {
		if got := impl.Guard(s, asks); len(got) != 0 {
			t.Errorf("%s: %v: %v", name, asks, got)
		}
	}
}

func TestNoGuardOfAStateThatIsNotSafe(t *testing.T) {
	for _, c := range known() {
		if !c.safe {
			checkNoGuard(t, c.name, c.s)
		}
	}
	third := with(rooms(3, 1), []int{3, 4, 9}, train(0, 1), train(1, 0), train(2))
	if !slices.Equal(impl.Moves(third), []int{9}) {
		t.Fatal("9 can leave")
	}
	checkNoGuard(t, "one can leave, two cannot", third)
}

// Each fault is laid into a state whose trains can leave at once, and into one that is not safe.
func TestNoGuardOfAStateThatIsNotRight(t *testing.T) {
	for code, list := range faults() {
		for i, fault := range list {
			open, jam := with(rooms(40, 1), []int{1, 2}, train(0), train(1)), circle(2)
			if len(impl.Guard(open, []int{1, 2})) != 2 {
				t.Fatal("the state without the fault")
			}
			fault(&open)
			if got := impl.StateOk(open); got != code {
				t.Errorf("fault %d of code %d: %d", i, code, got)
			}
			checkNoGuard(t, fmt.Sprintf("fault %d of code %d", i, code), open)
			fault(&jam)
			checkNoGuard(t, fmt.Sprintf("fault %d of code %d, not safe", i, code), jam)
		}
	}
	checkNoGuard(t, "zero value", impl.State{})
	checkNoGuard(t, "no trains, 41 sections", with(rooms(41, 1), nil))
	checkNoGuard(t, "no trains, a name", with(rooms(1, 1), []int{1}))
	checkNoGuard(t, "no trains, room for 6", with(rooms(1, 6), nil))
	checkNoGuard(t, "6 trains", crowd(6, 5))
	checkNoGuard(t, "path of 9", walker(9))
	checkNoGuard(t, "5 on room for 4", crowd(5, 4))
}

// One that was let go of may need a moment yet to be gone.
func TestNoGuardIsLeftBehind(t *testing.T) {
	before := runtime.NumGoroutine()
	for range 200 {
		impl.Guard(yard(), nil)
		impl.Guard(yard(), []int{2, 9, 5, 4})
		impl.Guard(circle(2), []int{0})
		impl.Guard(yard(), make([]int, 501))
	}
	for range 1000000 {
		if runtime.NumGoroutine() <= before {
			return
		}
		runtime.Gosched()
	}
	t.Errorf("%d goroutines, were %d", runtime.NumGoroutine(), before)
}
