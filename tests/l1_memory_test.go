package tests

import (
	"slices"
	"testing"

	"loop.example/regulator/impl"
)

const mark = 77

func roomyInts(list []int) []int {
	return append(slices.Clone(list), mark, mark, mark)[:len(list)]
}

// spaced has spare memory behind every list, filled with a mark: whoever appends to a list of the argument writes over
// one.
func spaced(s impl.State) impl.State {
	s.Room, s.Names = roomyInts(s.Room), roomyInts(s.Names)
	for i := range s.Trains {
		s.Trains[i].Path = roomyInts(s.Trains[i].Path)
	}
	s.Trains = append(s.Trains, impl.Train{At: mark})[:len(s.Trains)]
	return s
}

// roomy is such a yard, with two trains that share one Path.
func roomy() impl.State {
	s := spaced(yard())
	s.Trains[3] = impl.Train{At: 2, Path: s.Trains[2].Path, Weight: 8}
	return s
}

// whole is the state with the memory behind its lists.
func whole(s impl.State) impl.State {
	s.Room, s.Names = s.Room[:cap(s.Room)], s.Names[:cap(s.Names)]
	s.Trains = slices.Clone(s.Trains[:cap(s.Trains)])
	for i, train := range s.Trains {
		s.Trains[i].Path = train.Path[:cap(train.Path)]
	}
	return s
}

func asked() []int { return []int{2, 5, 9, 11, 4, -1} }

func TestNothingIsWrittenIntoTheArgument(t *testing.T) {
	s := roomy()
	before := deepCopy(whole(s))
	impl.StateOk(s)
	impl.Free(s, 2)
	impl.Moves(s)
	for _, train := range asked() {
		impl.Step(s, train)
	}
	if got := whole(s); !same(got, before) {
		t.Errorf("%v, was %v", got, before)
	}
}

func TestTheSameArgumentHasTheSameAnswer(t *testing.T) {
	s := roomy()
	for _, train := range asked() {
		if !same(impl.Step(s, train), impl.Step(s, train)) || !slices.Equal(impl.Moves(s), impl.Moves(s)) {
			t.Errorf("train %d", train)
		}
	}
}

func intLists(s impl.State) [][]int {
	lists := [][]int{s.Room[:cap(s.Room)], s.Names[:cap(s.Names)]}
	for _, train := range s.Trains {
		lists = append(lists, train.Path[:cap(train.Path)])
	}
	return lists
}

// numbered writes a number of its own all over each list; where two share memory the later one has written into both.
func numbered(t *testing.T, name string, lists [][]int) {
	t.Helper()
	for i, list := range lists {
		for j := range list {
			list[j] = i
		}
	}
	for i, list := range lists {
		if slices.ContainsFunc(list, func(n int) bool { return n != i }) {
			t.Errorf("%s: list %d shares memory: %v", name, i, list)
		}
	}
}

func TestStepSharesNoMemory(t *testing.T) {
	for _, train := range []int{2, 5} {
		s := roomy()
		got, again := impl.Step(s, train), impl.Step(s, train)
		if isZero(got) || isZero(again) {
			t.Fatalf("train %d does not move", train)
		}
		for i := range got.Trains {
			got.Trains[i].At, again.Trains[i].At = mark+1, mark+2
		}
		if slices.ContainsFunc(s.Trains[:cap(s.Trains)], func(x impl.Train) bool { return x.At > mark }) || got.Trains[0].At != mark+1 {
			t.Errorf("train %d: the list of trains is shared", train)
		}
		s.Trains[3].Path = nil // the argument's own two Paths are one list
		numbered(t, "step", slices.Concat(intLists(s), intLists(got), intLists(again)))
	}
}

func TestStepBesideListsThatAreOne(t *testing.T) {
	one := []int{1, 2, 1, 2}
	s := impl.State{
		Room:   one,
		Trains: []impl.Train{{At: 0, Path: one, Weight: 1}, {At: 3, Path: one, Weight: 1}, {At: 3, Weight: 1}},
		Names:  []int{1, 2, 3},
	}
	for _, train := range s.Names {
		got := impl.Step(s, train)
		if isZero(got) {
			t.Fatalf("train %d does not move", train)
		}
		numbered(t, "step", intLists(got))
	}
	if !slices.Equal(one, []int{1, 2, 1, 2}) {
		t.Error(one)
	}
}

func TestMovesSharesNoMemory(t *testing.T) {
	s := impl.State{Room: []int{5}, Trains: make([]impl.Train, 5), Names: roomyInts([]int{1, 2, 3, 4, 5})}
	for i := range s.Trains {
		s.Trains[i].Weight = 1
	}
	got, again := impl.Moves(s), impl.Moves(s)
	if !slices.Equal(got, s.Names) || !slices.Equal(again, s.Names) {
		t.Fatal(got, again)
	}
	numbered(t, "moves", append(intLists(s), got[:cap(got)], again[:cap(again)]))
}
