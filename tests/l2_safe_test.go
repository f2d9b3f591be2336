package tests

import (
	"math"
	"slices"
	"testing"

	"loop.example/regulator/impl"
)

func train(at int, path ...int) impl.Train { return impl.Train{At: at, Path: path, Weight: 1} }

func with(room, names []int, trains ...impl.Train) impl.State {
	return impl.State{Room: room, Trains: trains, Names: names}
}

// circle is that many trains on as many sections, each of which wants to go where the next one is.
func circle(trains int) impl.State {
	s := impl.State{Room: rooms(trains, 1)}
	for i := range trains {
		s.Trains = append(s.Trains, train(i, (i+1)%trains))
		s.Names = append(s.Names, 10*i)
	}
	return s
}

// behindOne is two trains on a section with that much room; one waits for the train that wants to come there, the other
// one can leave.
func behindOne(room int) impl.State {
	return with([]int{1, room}, []int{1, 2, 3}, train(0, 1), train(1, 0), train(1))
}

// twoAhead is a train that waits for two on a section with room for two, which wait for one on a section with that much
// room, which waits for the first.
func twoAhead(room int) impl.State {
	return with([]int{room, 2, 1}, []int{1, 2, 3, 4}, train(0, 1), train(1, 2), train(1, 2), train(2, 0))
}

// aside is two trains against one another in a row of 4 sections, of which the second goes aside, to section 4, out of
// section 2; the first has done that many moves.
func aside(done int) impl.State {
	row := []int{0, 1, 2, 3}
	return with(rooms(5, 1), []int{6, 8}, train(row[done], row[done+1:]...), train(3, 2, 4, 2, 1, 0))
}

// long is 5 trains with paths of 8 over all of 40 sections, each up to where the next one began.
func long() impl.State {
	s := impl.State{Room: rooms(40, 1), Names: []int{0, 1, 500, 999, 1000}}
	for i := range 5 {
		t := train(8 * i)
		for j := 1; j <= 8; j++ {
			t.Path = append(t.Path, (8*i+j)%40)
		}
		s.Trains = append(s.Trains, t)
	}
	return s
}

// against is long with the second train on the way of the first one, the other way round: all can move yet.
func against() impl.State {
	s := long()
	s.Trains[1].Path = []int{7, 6, 5, 4, 3, 2, 1, 0}
	return s
}

type answers struct {
	name    string
	s       impl.State
	safe    bool
	stuck   bool
	allowed []int
	ring    []int
}

func known() []answers {
	one := func(n int) []int { return rooms(n, 1) }
	return []answers{
		{"no trains", with(one(1), nil), true, false, nil, nil},
		{"no trains, 40 sections", with(one(40), []int{}, []impl.Train{}...), true, false, nil, nil},
		{"empty path", with(one(1), []int{1000}, train(0)), true, false, []int{1000}, nil},
		{"all leave", crowd(5, 5), true, false, []int{0, 1, 2, 3, 4}, nil},
		{"one alone, path of 8", walker(8), true, false, []int{0}, nil},
		{"yard", yard(), true, false, []int{2, 5, 11}, nil},
		{"filled exactly", behindOne(2), true, false, []int{3}, []int{1, 2}},
		{"room for one more", behindOne(3), true, false, []int{1, 3}, nil},
		{"two ahead", twoAhead(1), false, true, nil, []int{1, 2, 4}},
		{"two ahead, one more", twoAhead(2), true, false, []int{4}, nil},
		{"ring of 2", circle(2), false, true, nil, []int{0, 10}},
		{"ring of 3", circle(3), false, true, nil, []int{0, 10, 20}},
		{"ring of 4", circle(4), false, true, nil, []int{0, 10, 20, 30}},
		{"ring of 5", circle(5), false, true, nil, []int{0, 10, 20, 30, 40}},
		{"5 long paths", long(), true, false, []int{0, 1, 500, 999, 1000}, nil},
		{"5 long paths, 2 against", against(), false, false, nil, nil},
		{"aside, from the end", aside(0), true, false, []int{6, 8}, nil},
		{"aside, just ahead", aside(1), true, false, []int{8}, nil},
		{"aside, too far", aside(2), false, true, nil, []int{6, 8}},
		{"may not cross", with(one(4), []int{1, 2}, train(0, 1, 3), train(2, 1, 0)), true, false, []int{1}, nil},
		{"the third may not help", with(one(3), []int{3, 4, 9}, train(0, 1), train(1, 0), train(2)), false, false, nil, []int{3, 4}},
		{"leaves first", with(one(2), []int{3, 4}, train(0, 1), train(1)), true, false, []int{4}, nil},
	}
}

func TestSafeAllowedStuckAndRing(t *testing.T) {
	for _, c := range known() {
		if impl.StateOk(c.s) != 0 {
			t.Fatalf("%s: not right", c.name)
		}
		if got := impl.Safe(c.s); got != c.safe {
			t.Errorf("%s: Safe %v", c.name, got)
		}
		if got := impl.Stuck(c.s); got != c.stuck {
			t.Errorf("%s: Stuck %v", c.name, got)
		}
		if got := impl.Allowed(c.s); !slices.Equal(got, c.allowed) {
			t.Errorf("%s: Allowed %v, not %v", c.name, got, c.allowed)
		}
		if got := impl.Ring(c.s); !slices.Equal(got, c.ring) {
			t.Errorf("%s: Ring %v, not %v", c.name, got, c.ring)
		}
	}
}

// The move is to be had by Step, and is not allowed; the same train's move is allowed with one place more.
func TestATrainThatCanMoveAndMustNot(t *testing.T) {
	for room, want := range map[int][]int{1: {8}, 2: {6, 8}} {
		s := aside(1)
		s.Room[2] = room
		if !slices.Equal(impl.Moves(s), []int{6, 8}) || isZero(impl.Step(s, 6)) {
			t.Fatal("6 cannot move")
		}
		if got := impl.Allowed(s); !slices.Equal(got, want) {
			t.Errorf("room for %d: %v", room, got)
		}
		if got := impl.Safe(impl.Step(s, 6)); got != (room == 2) {
			t.Errorf("room for %d: behind it %v", room, got)
		}
	}
}

func TestWaits(t *testing.T) {
	for _, c := range []struct {
		name  string
		s     impl.State
		train int
		want  []int
	}{
		{"full section", yard(), 9, []int{5}},
		{"can go on", yard(), 2, nil},
		{"can leave", yard(), 5, nil},
		{"last place", yard(), 11, nil},
		{"no such train between", yard(), 4, nil},
		{"a place in the list is no number", yard(), 0, nil},
		{"filled exactly", behindOne(2), 1, []int{2, 3}},
		{"room for one more", behindOne(3), 1, nil},
		{"leaves a full section", behindOne(2), 3, nil},
		{"two wait for one", twoAhead(1), 2, []int{4}},
		{"two wait for one, the other", twoAhead(1), 3, []int{4}},
		{"waits for two", twoAhead(1), 1, []int{2, 3}},
		{"waits for four", with([]int{1, 4}, []int{7, 8, 9, 10, 11}, train(1), train(1), train(0, 1), train(1), train(1)), 9, []int{7, 8, 10, 11}},
		{"the first of the Path alone", with(rooms(3, 1), []int{1, 2, 3}, train(0, 1, 2), train(1), train(2)), 1, []int{2}},
		{"a later one is full", with(rooms(3, 1), []int{1, 2}, train(0, 1, 2), train(2)), 1, nil},
		{"no trains", with(rooms(1, 1), nil), 0, nil},
	} {
		if got := impl.Waits(c.s, c.train); !slices.Equal(got, c.want) {
			t.Errorf("%s: %v, not %v", c.name, got, c.want)
		}
	}
	for _, n := range outside(0, 1000) {
		if got := impl.Waits(circle(5), n); len(got) != 0 {
			t.Errorf("no train %d: %v", n, got)
		}
	}
}

func TestRingIsTheFirstOfTheShortest(t *testing.T) {
	one := rooms(5, 1)
	for _, c := range []struct {
		name string
		s    impl.State
		want []int
	}{
		{"two of one length", with(one, []int{1, 2, 3, 4}, train(0, 3), train(1, 2), train(2, 1), train(3, 0)), []int{1, 4}},
		{"a shorter one later", with(one, []int{1, 2, 3, 4, 5}, train(0, 1), train(1, 2), train(2, 0), train(3, 4), train(4, 3)), []int{4, 5}},
		{"a shorter one first", with(one, []int{1, 2, 3, 4, 5}, train(0, 1), train(1, 0), train(2, 3), train(3, 4), train(4, 2)), []int{1, 2}},
		{"waits for a ring", with(one, []int{1, 3, 5}, train(0, 1), train(1, 2), train(2, 1)), []int{3, 5}},
		{"waits for one that waits for a ring", with(one, []int{1, 3, 5, 6}, train(0, 1), train(1, 2), train(2, 3), train(3, 2)), []int{5, 6}},
		{"waits for a ring, the last", with(one, []int{1, 3, 5}, train(0, 1), train(1, 0), train(2, 0)), []int{1, 3}},
		{"against the numbers", with(one, []int{1, 2, 3}, train(0, 2), train(1, 0), train(2, 1)), []int{1, 3, 2}},
		{"both ahead wait back", with([]int{1, 2}, []int{1, 2, 3}, train(0, 1), train(1, 0), train(1, 0)), []int{1, 2}},
		{"the second ahead waits back", with([]int{1, 2}, []int{1, 2, 3}, train(0, 1), train(1), train(1, 0)), []int{1, 3}},
		{"the first way, not the lower end", with([]int{1, 2, 1, 1}, []int{1, 2, 3, 4, 5}, train(0, 1), train(1, 3), train(1, 2), train(2, 0), train(3, 0)), []int{1, 2, 5}},
		{"a shorter one off the longer", with([]int{1, 1, 2}, []int{1, 2, 3, 4}, train(0, 1), train(1, 2), train(2, 0), train(2, 1)), []int{2, 4}},
		{"a detour", with([]int{2, 1, 1}, []int{1, 2, 3, 4}, train(1, 0), train(0, 2), train(0, 1), train(2, 1)), []int{1, 3}},
		{"begins with the lowest", with([]int{2, 1, 1}, []int{1, 2, 3, 4}, train(0, 1), train(0, 2), train(1, 2), train(2, 0)), []int{2, 4}},
		{"a row of waiting, no ring", with(one, []int{1, 2, 3}, train(0, 1), train(1, 2), train(2)), nil},
	} {
		if impl.StateOk(c.s) != 0 {
			t.Fatalf("%s: not right", c.name)
		}
		if got := impl.Ring(c.s); !slices.Equal(got, c.want) {
			t.Errorf("%s: %v, not %v", c.name, got, c.want)
		}
	}
}

// checkUnsafe is what chapter 2 owes for a state that is not right.
func checkUnsafe(t *testing.T, name string, s impl.State) {
	t.Helper()
	if impl.Safe(s) || impl.Stuck(s) || len(impl.Allowed(s)) != 0 || len(impl.Ring(s)) != 0 {
		t.Errorf("%s: Safe %v, Stuck %v, Allowed %v, Ring %v", name, impl.Safe(s), impl.Stuck(s), impl.Allowed(s), impl.Ring(s))
	}
	numbers := append([]int{0, 1, 2, 10, 1000, -1, math.MinInt, math.MaxInt}, s.Names[:min(9, len(s.Names))]...)
	for _, n := range numbers {
		if got := impl.Waits(s, n); len(got) != 0 {
			t.Errorf("%s: Waits %d: %v", name, n, got)
		}
	}
}

// faults is what makes a state of two trains or more, on sections 0 and 1, not right, by the codes.
func faults() map[int][]func(s *impl.State) {
	return map[int][]func(s *impl.State){
		1: {
			func(s *impl.State) { s.Room = nil },
			func(s *impl.State) { s.Room = append(s.Room, rooms(41-len(s.Room), 1)...) },
			func(s *impl.State) { s.Names = s.Names[:1] },
			func(s *impl.State) { s.Names = append(s.Names, 1000) },
			func(s *impl.State) { s.Trains, s.Names = crowd(6, 5).Trains, crowd(6, 5).Names },
			func(s *impl.State) { s.Trains, s.Names = make([]impl.Train, 100000), make([]int, 100000) },
		},
		2: {
			func(s *impl.State) { s.Room[1] = 0 },
			func(s *impl.State) { s.Room[1] = 6 },
			func(s *impl.State) { s.Room[0] = math.MaxInt },
			func(s *impl.State) { s.Room[0] = math.MinInt },
		},
		3: {
			func(s *impl.State) { s.Trains[0].At = -1 },
			func(s *impl.State) { s.Trains[1].At = math.MaxInt },
			func(s *impl.State) { s.Trains[1].Path = append(s.Trains[1].Path, math.MinInt) },
			func(s *impl.State) { s.Trains[1].Path = []int{s.Trains[1].At} },
			func(s *impl.State) { s.Trains[1].Path = slices.Concat([]int{0}, rooms(8, 1)) },
			func(s *impl.State) { s.Trains[0].Weight = 0 },
			func(s *impl.State) { s.Trains[1].Weight = 101 },
		},
		4: {
			func(s *impl.State) { s.Names[0] = -1 },
			func(s *impl.State) { s.Names[len(s.Names)-1] = 1001 },
			func(s *impl.State) { s.Names[1] = s.Names[0] },
			func(s *impl.State) { s.Names[1] = math.MinInt },
		},
		5: {
			func(s *impl.State) { s.Trains[0].At, s.Trains[0].Path = s.Trains[1].At, nil },
			func(s *impl.State) {
				s.Trains[0].At = s.Trains[1].At
				s.Trains[0].Path = []int{(s.Trains[0].At + 1) % 2}
			},
		},
	}
}

// Each fault is laid into a state in which nobody can move, and into one in which all can.
func TestNoSafetyInAStateThatIsNotRight(t *testing.T) {
	for code, list := range faults() {
		for i, fault := range list {
			jam, open := circle(2), with(rooms(40, 1), []int{1, 2}, train(0), train(1))
			fault(&jam)
			if got := impl.StateOk(jam); got != code {
				t.Errorf("fault %d of code %d: %d", i, code, got)
			}
			checkUnsafe(t, "jam", jam)
			if fault(&open); impl.StateOk(open) != 0 {
				checkUnsafe(t, "open", open)
			}
		}
	}
	checkUnsafe(t, "zero value", impl.State{})
	checkUnsafe(t, "path of 9", walker(9))
	checkUnsafe(t, "too full", crowd(2, 1))
	checkUnsafe(t, "5 on room for 4", crowd(5, 4))
}
