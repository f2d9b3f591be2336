package tests

import (
	"fmt"
	"slices"
	"sync"
	"testing"

	"loop.example/regulator/impl"
)

// guardAsks has trains that move, that cannot, that have left, and numbers that there are not.
func guardAsks(s impl.State) []int {
	return slices.Concat(s.Names, []int{-1, 4}, reversed(s.Names), slices.Repeat(s.Names, 12))
}

// everything is what all functions of the four chapters tell of a state and some numbers, as one text; nil and an empty
// list look the same in it.
func everything(s impl.State, numbers []int) string {
	text := fmt.Sprintln(impl.StateOk(s), impl.Moves(s), impl.Safe(s), impl.Allowed(s), impl.Stuck(s), impl.Ring(s))
	for _, n := range numbers[:min(len(numbers), 12)] {
		text += fmt.Sprintln(n, impl.Free(s, n), impl.Step(s, n), impl.Waits(s, n))
	}
	best := impl.Solve(s)
	text += fmt.Sprintln(best, impl.Cost(s, best.Moves), impl.Cost(s, numbers))
	return text + fmt.Sprintln(impl.Guard(s, numbers)) + impl.Shown(s)
}

// everyState is those of the chapters before, all ones that are not right by a fault, and drawn ones.
func everyState() []impl.State {
	states := append(allStates(), mayNotCross(), aside(1), behindOne(3), weighed(long(), 3, 1, 100, 2, 50))
	for code := 1; code <= 5; code++ {
		for _, fault := range faults()[code] {
			s := with(rooms(40, 1), []int{1, 2}, train(0), train(1))
			if fault(&s); len(s.Trains) < 10 {
				states = append(states, s)
			}
		}
	}
	d := dice(14)
	for range 100 {
		states = append(states, drawnWeights(&d, drawn(&d)))
	}
	return states
}

func TestNoFunctionWritesIntoItsArguments(t *testing.T) {
	for i, s := range everyState() {
		s = spaced(deepCopy(s))
		numbers := roomyInts(guardAsks(s))
		before, asksBefore := deepCopy(whole(s)), slices.Clone(numbers[:cap(numbers)])
		everything(s, numbers)
		if got := whole(s); !same(got, before) {
			t.Errorf("state %d: %v, was %v", i, got, before)
		}
		if got := numbers[:cap(numbers)]; !slices.Equal(got, asksBefore) {
			t.Errorf("state %d: numbers %v, were %v", i, got, asksBefore)
		}
	}
}

// The second time other states have been asked for in between; the third, the lists have other memory behind them.
func TestEveryFunctionAnswersTheSameAgain(t *testing.T) {
	states := everyState()
	var first []string
	for _, s := range states {
		first = append(first, everything(s, guardAsks(s)))
	}
	for i, s := range slices.Backward(states) {
		if got := everything(s, guardAsks(s)); got != first[i] {
			t.Errorf("state %d: %q, then %q", i, first[i], got)
		}
		if got := everything(spaced(deepCopy(s)), roomyInts(guardAsks(s))); got != first[i] {
			t.Errorf("state %d, copied: %q, then %q", i, first[i], got)
		}
	}
}

func TestNilAndEmptyListsAreTheSame(t *testing.T) {
	for _, room := range [][]int{nil, {1}, {1, 2}} {
		a, b := impl.State{Room: room}, impl.State{Room: slices.Concat([]int{}, room), Trains: []impl.Train{}, Names: []int{}}
		if everything(a, nil) != everything(b, []int{}) {
			t.Errorf("%v: %s, %s", room, everything(a, nil), everything(b, []int{}))
		}
	}
	bare, empty := crowd(2, 2), crowd(2, 2)
	bare.Trains[0].Path, empty.Trains[0].Path = nil, []int{}
	if everything(bare, []int{0, 1}) != everything(empty, []int{0, 1}) {
		t.Error("an empty Path")
	}
}

// Many ask at the same time of one state: each has the answers that one alone has.
func TestTheSameAnswersAtTheSameTime(t *testing.T) {
	for i, s := range []impl.State{yard(), aside(0), mayNotCross(), twoAhead(2), circle(3), walker(9)} {
		numbers := guardAsks(s)
		want := everything(s, numbers)
		got := make([]string, 8)
		var all sync.WaitGroup
		for j := range got {
			all.Go(func() { got[j] = everything(s, numbers) })
		}
		all.Wait()
		if slices.ContainsFunc(got, func(text string) bool { return text != want }) {
			t.Errorf("state %d: %q, alone %q", i, got, want)
		}
	}
}

func trainLists(told []impl.Asked) [][]impl.Train {
	var lists [][]impl.Train
	for _, a := range told {
		lists = append(lists, a.State.Trains[:cap(a.State.Trains)])
	}
	return lists
}

func numberLists(told []impl.Asked) [][]int {
	var lists [][]int
	for _, a := range told {
		lists = append(lists, intLists(a.State)...)
	}
	return lists
}

// checkApart writes through every list of the answers and of the arguments, each with a number of its own.
func checkApart(t *testing.T, name string, s impl.State, asks []int, answers ...[]impl.Asked) {
	t.Helper()
	trains := [][]impl.Train{s.Trains[:cap(s.Trains)]}
	numbers := append(intLists(s), asks[:cap(asks)])
	for i, told := range answers {
		trains = append(trains, trainLists(told)...)
		numbers = append(numbers, numberLists(told)...)
		for j := range told {
			told[j].Code = 10 * i
		}
	}
	for i, list := range trains {
		for j := range list {
			list[j].At = i
		}
	}
	for i, list := range trains {
		if slices.ContainsFunc(list, func(x impl.Train) bool { return x.At != i }) {
			t.Errorf("%s: list of trains %d is shared", name, i)
		}
	}
	for i, told := range answers {
		if slices.ContainsFunc(told, func(a impl.Asked) bool { return a.Code != 10*i }) {
			t.Errorf("%s: the list of answers is shared", name)
		}
	}
	numbered(t, name, numbers)
}

func TestGuardSharesNoMemory(t *testing.T) {
	for i, s := range []impl.State{yard(), crowd(5, 5), walker(8), long(), aside(0), mayNotCross(), twoAhead(2), with(rooms(40, 1), nil)} {
		s = spaced(s)
		asks := roomyInts(guardAsks(s))
		got, again := impl.Guard(s, asks), impl.Guard(s, asks)
		if len(got) != len(asks) || len(again) != len(asks) {
			t.Fatalf("state %d: %d answers", i, len(got))
		}
		checkApart(t, fmt.Sprintf("state %d", i), s, asks, got, again)
	}
}

// Refusals alone: every answer has the same state, and none the same lists.
func TestRefusalsShareNoMemory(t *testing.T) {
	for code, c := range map[int]struct {
		s   impl.State
		ask int
	}{1: {yard(), 77}, 2: {yard(), 9}, 3: {mayNotCross(), 2}} {
		s := spaced(c.s)
		asks := slices.Repeat([]int{c.ask}, 20)
		got := impl.Guard(s, asks)
		if !slices.Equal(codesOf(got), slices.Repeat([]int{code}, 20)) {
			t.Fatal(codesOf(got))
		}
		checkApart(t, fmt.Sprintf("code %d", code), s, asks, got)
	}
}

// The arguments' own lists are one; those of the answers are not.
func TestGuardBesideListsThatAreOne(t *testing.T) {
	one := []int{1, 2, 1, 2}
	s := impl.State{
		Room:   one,
		Trains: []impl.Train{{At: 0, Path: one, Weight: 1}, {At: 3, Path: one, Weight: 1}, {At: 3, Weight: 1}},
		Names:  []int{1, 2, 3},
	}
	got := impl.Guard(s, one)
	if len(got) != len(one) {
		t.Fatal(got)
	}
	want := guarded(s, one)
	if !sameTold(got, want) {
		t.Errorf("%v, not %v", got, want)
	}
	numbered(t, "guard", numberLists(got))
	if !slices.Equal(one, []int{1, 2, 1, 2}) {
		t.Error(one)
	}
}

// What is written into the answers of the first call changes nothing in those of the second.
func TestGuardAnswersTheSameAgain(t *testing.T) {
	for i, s := range everyState() {
		asks := guardAsks(s)
		got := impl.Guard(s, asks)
		want := fmt.Sprint(got)
		for j, a := range got {
			for _, list := range intLists(a.State) {
				for k := range list {
					list[k] = mark
				}
			}
			clear(a.State.Trains)
			got[j] = impl.Asked{Code: mark}
		}
		if again := fmt.Sprint(impl.Guard(s, asks)); again != want {
			t.Errorf("state %d: %s, then %s", i, want, again)
		}
	}
}
