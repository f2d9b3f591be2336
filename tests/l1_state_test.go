package tests

import (
	"fmt"
	"math"
	"slices"
	"testing"

	"loop.example/regulator/impl"
)

func rooms(count, room int) []int { return slices.Repeat([]int{room}, count) }

// same holds nil and an empty list for the same value, as the document does.
func same(a, b impl.State) bool {
	return slices.Equal(a.Room, b.Room) && slices.Equal(a.Names, b.Names) &&
		slices.EqualFunc(a.Trains, b.Trains, func(x, y impl.Train) bool {
			return x.At == y.At && x.Weight == y.Weight && slices.Equal(x.Path, y.Path)
		})
}

func isZero(s impl.State) bool { return same(s, impl.State{}) }

func deepCopy(s impl.State) impl.State {
	c := impl.State{Room: slices.Clone(s.Room), Trains: slices.Clone(s.Trains), Names: slices.Clone(s.Names)}
	for i := range c.Trains {
		c.Trains[i].Path = slices.Clone(c.Trains[i].Path)
	}
	return c
}

// yard has a train that can go on (2), one that can leave (5), one that waits for a full section (9), one that goes to
// a section with a place left (11).
func yard() impl.State {
	return impl.State{
		Room: []int{1, 1, 2, 5},
		Trains: []impl.Train{
			{At: 0, Path: []int{3, 1, 0}, Weight: 1},
			{At: 1, Weight: 100},
			{At: 2, Path: []int{1, 2}, Weight: 7},
			{At: 3, Path: []int{2}, Weight: 8},
		},
		Names: []int{2, 5, 9, 11},
	}
}

// crowd is that many trains on section 0, which has room for that many, all about to leave.
func crowd(trains, room int) impl.State {
	s := impl.State{Room: []int{room}}
	for i := range trains {
		s.Trains = append(s.Trains, impl.Train{Weight: 1})
		s.Names = append(s.Names, i)
	}
	return s
}

// walker is one train in a row of 3 sections that goes to and fro for that many moves.
func walker(moves int) impl.State {
	s := impl.State{Room: rooms(3, 1), Trains: []impl.Train{{Weight: 1}}, Names: []int{0}}
	for i := range moves {
		s.Trains[0].Path = append(s.Trains[0].Path, 1-i%2)
	}
	return s
}

func spoiled(spoil func(s *impl.State)) impl.State {
	s := yard()
	spoil(&s)
	return s
}

func TestStateOkAcceptsWhatIsRight(t *testing.T) {
	for name, s := range map[string]impl.State{
		"yard":               yard(),
		"1 section":          {Room: rooms(1, 1)},
		"40 sections":        {Room: rooms(40, 5)},
		"last of 40":         {Room: rooms(40, 1), Trains: []impl.Train{{At: 39, Path: []int{38, 39}, Weight: 1}}, Names: []int{0}},
		"no trains, no nil":  {Room: rooms(1, 1), Trains: []impl.Train{}, Names: []int{}},
		"5 trains, filled":   crowd(5, 5),
		"1 train, filled":    crowd(1, 1),
		"4 trains of 5":      crowd(4, 5),
		"path of 8":          walker(8),
		"empty path":         walker(0),
		"weight 1":           spoiled(func(s *impl.State) { s.Trains[3].Weight = 1 }),
		"weight 100":         spoiled(func(s *impl.State) { s.Trains[3].Weight = 100 }),
		"names 0 and 1000":   spoiled(func(s *impl.State) { s.Names[0], s.Names[3] = 0, 1000 }),
		"names side by side": spoiled(func(s *impl.State) { s.Names = []int{997, 998, 999, 1000} }),
		"back to its place":  spoiled(func(s *impl.State) { s.Trains[0].Path = []int{1, 0, 1, 0} }),
	} {
		if got := impl.StateOk(s); got != 0 {
			t.Errorf("%s: %d", name, got)
		}
	}
}

func TestStateOkTellsCode1(t *testing.T) {
	many := crowd(6, 5)
	for name, s := range map[string]impl.State{
		"zero value":     {},
		"empty rooms":    {Room: []int{}},
		"41 sections":    {Room: rooms(41, 1)},
		"many sections":  {Room: rooms(100000, 1)},
		"6 trains":       many,
		"many trains":    {Room: rooms(1, 1), Trains: make([]impl.Train, 100000), Names: make([]int, 100000)},
		"no names":       spoiled(func(s *impl.State) { s.Names = nil }),
		"a name less":    spoiled(func(s *impl.State) { s.Names = s.Names[:3] }),
		"a name more":    spoiled(func(s *impl.State) { s.Names = append(s.Names, 12) }),
		"names alone":    {Room: rooms(1, 1), Names: []int{1}},
		"6 names for 5":  {Room: rooms(1, 5), Trains: many.Trains[:5], Names: many.Names},
		"trains, no row": {Trains: []impl.Train{{Weight: 1}}, Names: []int{1}},
	} {
		if got := impl.StateOk(s); got != 1 {
			t.Errorf("%s: %d", name, got)
		}
	}
}

// outside is numbers just below, just above, far below and far above what is allowed.
func outside(low, high int) []int {
	return []int{low - 1, high + 1, -1 << 20, 1 << 20, math.MinInt, math.MaxInt, math.MinInt32, math.MaxInt32, 1 << 32}
}

func TestStateOkRefusesNumbersOutOfRange(t *testing.T) {
	for _, c := range []struct {
		name      string
		low, high int
		set       func(s *impl.State, n int)
		want      int
	}{
		{"first room", 1, 5, func(s *impl.State, n int) { s.Room[0] = n }, 2},
		{"last room", 1, 5, func(s *impl.State, n int) { s.Room = append(s.Room, n) }, 2},
		{"first at", 0, 3, func(s *impl.State, n int) { s.Trains[0].At = n }, 3},
		{"last at", 0, 3, func(s *impl.State, n int) { s.Trains[3].At = n }, 3},
		{"at, empty path", 0, 3, func(s *impl.State, n int) { s.Trains[1].At = n }, 3},
		{"first of path", 0, 3, func(s *impl.State, n int) { s.Trains[0].Path[0] = n }, 3},
		{"last of path", 0, 3, func(s *impl.State, n int) { s.Trains[0].Path[2] = n }, 3},
		{"path of the last", 0, 3, func(s *impl.State, n int) { s.Trains[3].Path[0] = n }, 3},
		{"first weight", 1, 100, func(s *impl.State, n int) { s.Trains[0].Weight = n }, 3},
		{"last weight", 1, 100, func(s *impl.State, n int) { s.Trains[3].Weight = n }, 3},
		{"first name", 0, 1000, func(s *impl.State, n int) { s.Names[0] = n }, 4},
		{"last name", 0, 1000, func(s *impl.State, n int) { s.Names[3] = n }, 4},
	} {
		for _, n := range outside(c.low, c.high) {
			s := spoiled(func(s *impl.State) { c.set(s, n) })
			if got := impl.StateOk(s); got != c.want {
				t.Errorf("%s %d: %d", c.name, n, got)
			}
		}
	}
}

func TestStateOkTellsTheOtherFaults(t *testing.T) {
	for name, c := range map[string]struct {
		s    impl.State
		want int
	}{
		"path of 9":              {walker(9), 3},
		"path of 100000":         {walker(100000), 3},
		"first is At":            {spoiled(func(s *impl.State) { s.Trains[0].Path[0] = 0 }), 3},
		"first of the last":      {spoiled(func(s *impl.State) { s.Trains[3].Path[0] = 3 }), 3},
		"same twice":             {spoiled(func(s *impl.State) { s.Trains[0].Path[1] = 3 }), 3},
		"same twice at the end":  {spoiled(func(s *impl.State) { s.Trains[0].Path[2] = 1 }), 3},
		"section of 39 sections": {impl.State{Room: rooms(39, 1), Trains: []impl.Train{{At: 39, Weight: 1}}, Names: []int{0}}, 3},
		"same name":              {spoiled(func(s *impl.State) { s.Names[1] = 2 }), 4},
		"same name at the end":   {spoiled(func(s *impl.State) { s.Names[3] = 9 }), 4},
		"name below":             {spoiled(func(s *impl.State) { s.Names[2] = 4 }), 4},
		"one too many":           {crowd(2, 1), 5},
		"5 on room for 4":        {crowd(5, 4), 5},
		"last section too full":  {spoiled(func(s *impl.State) { s.Room[3] = 1; s.Trains[0].At = 3; s.Trains[0].Path = nil }), 5},
	} {
		if got := impl.StateOk(c.s); got != c.want {
			t.Errorf("%s: %d, not %d", name, got, c.want)
		}
	}
}

// Every set of the five faults at once: the first of the codes is told, and nobody else answers anything.
func TestSeveralFaultsTellTheFirst(t *testing.T) {
	faults := []func(s *impl.State){
		func(s *impl.State) { s.Names = append(s.Names, 1000) },
		func(s *impl.State) { s.Room[2] = 6 },
		func(s *impl.State) { s.Trains[3].Weight = 0 },
		func(s *impl.State) { s.Names[2] = 5 },
		func(s *impl.State) { s.Trains[0].At, s.Trains[0].Path = 1, nil },
	}
	for set := 1; set < 1<<len(faults); set++ {
		s, want := yard(), 0
		for i, fault := range faults {
			if set>>i&1 == 1 {
				fault(&s)
				if want == 0 {
					want = i + 1
				}
			}
		}
		if got := impl.StateOk(s); got != want {
			t.Errorf("faults %05b: %d, not %d", set, got, want)
		}
		checkNothing(t, fmt.Sprintf("faults %05b", set), s)
	}
}

// checkNothing is what is owed for a state that is not right.
func checkNothing(t *testing.T, name string, s impl.State) {
	t.Helper()
	for _, n := range []int{0, 1, 2, 5, 9, 11, -1, math.MinInt, math.MaxInt} {
		if got := impl.Free(s, n); got != -1 {
			t.Errorf("%s: Free %d: %d", name, n, got)
		}
		if got := impl.Step(s, n); !isZero(got) {
			t.Errorf("%s: Step %d: %v", name, n, got)
		}
	}
	if got := impl.Moves(s); len(got) != 0 {
		t.Errorf("%s: Moves: %v", name, got)
	}
}

func TestNothingForAStateThatIsNotRight(t *testing.T) {
	checkNothing(t, "zero value", impl.State{})
	checkNothing(t, "41 sections", impl.State{Room: rooms(41, 1)})
	checkNothing(t, "6 trains", crowd(6, 5))
	checkNothing(t, "path of 9", walker(9))
	checkNothing(t, "too full", crowd(2, 1))
	checkNothing(t, "At far off", spoiled(func(s *impl.State) { s.Trains[0].At = math.MaxInt }))
	checkNothing(t, "Path far off", spoiled(func(s *impl.State) { s.Trains[0].Path[0] = math.MinInt }))
}

func TestFree(t *testing.T) {
	for section, want := range []int{0, 0, 1, 4} {
		if got := impl.Free(yard(), section); got != want {
			t.Errorf("section %d: %d, not %d", section, got, want)
		}
	}
	for _, section := range outside(0, 3) {
		if got := impl.Free(yard(), section); got != -1 {
			t.Errorf("section %d: %d", section, got)
		}
	}
	for trains := range 6 {
		if got := impl.Free(crowd(trains, 5), 0); got != 5-trains {
			t.Errorf("%d trains: %d", trains, got)
		}
	}
	wide := impl.State{Room: rooms(40, 3)}
	if impl.Free(wide, 39) != 3 || impl.Free(wide, 40) != -1 {
		t.Error("the last of 40 sections")
	}
}

func TestMoves(t *testing.T) {
	for name, c := range map[string]struct {
		s    impl.State
		want []int
	}{
		"yard":           {yard(), []int{2, 5, 11}},
		"no trains":      {impl.State{Room: rooms(1, 1)}, nil},
		"all leave":      {crowd(5, 5), []int{0, 1, 2, 3, 4}},
		"last place":     {spoiled(func(s *impl.State) { s.Room[3] = 2 }), []int{2, 5, 11}},
		"no place":       {spoiled(func(s *impl.State) { s.Room[3] = 1 }), []int{5, 11}},
		"head to head":   {impl.State{Room: rooms(2, 1), Trains: []impl.Train{{At: 0, Path: []int{1}, Weight: 1}, {At: 1, Path: []int{0}, Weight: 1}}, Names: []int{3, 4}}, nil},
		"first one only": {impl.State{Room: rooms(3, 1), Trains: []impl.Train{{At: 0, Path: []int{1, 2}, Weight: 1}, {At: 2, Path: []int{0, 1}, Weight: 1}}, Names: []int{0, 1000}}, []int{0}},
		"leaves a full":  {impl.State{Room: rooms(1, 1), Trains: []impl.Train{{Weight: 1}}, Names: []int{1000}}, []int{1000}},
	} {
		if got := impl.Moves(c.s); !slices.Equal(got, c.want) {
			t.Errorf("%s: %v, not %v", name, got, c.want)
		}
	}
}

func TestStep(t *testing.T) {
	for train, change := range map[int]func(s *impl.State){
		2:  func(s *impl.State) { s.Trains[0].At, s.Trains[0].Path = 3, []int{1, 0} },
		5:  func(s *impl.State) { s.Trains, s.Names = slices.Delete(s.Trains, 1, 2), []int{2, 9, 11} },
		9:  func(s *impl.State) { *s = impl.State{} },
		11: func(s *impl.State) { s.Trains[3].At, s.Trains[3].Path = 2, nil },
	} {
		if got, want := impl.Step(yard(), train), spoiled(change); !same(got, want) {
			t.Errorf("train %d: %v, not %v", train, got, want)
		}
	}
	for _, train := range append(outside(0, 1000), 0, 1, 3, 4, 10, 12, 1000) {
		if got := impl.Step(yard(), train); !isZero(got) {
			t.Errorf("no train %d: %v", train, got)
		}
	}
}

func TestStepToTheEnd(t *testing.T) {
	s := walker(8)
	for left := 8; left > 0; left-- {
		s = impl.Step(s, 0)
		if impl.StateOk(s) != 0 || len(s.Trains) != 1 || s.Trains[0].At != (left+1)%2 || len(s.Trains[0].Path) != left-1 {
			t.Fatalf("%d moves left: %v", left-1, s)
		}
	}
	s = impl.Step(s, 0)
	if !same(s, impl.State{Room: rooms(3, 1)}) || impl.StateOk(s) != 0 {
		t.Fatal(s)
	}
	if got := impl.Step(s, 0); !isZero(got) {
		t.Error(got)
	}
}

// Whatever moves are done from a state on, the numbers that Moves tells, Free and Step agree, and each way ends.
func TestFreeMovesAndStepAgree(t *testing.T) {
	visited := 0
	var visit func(s impl.State)
	visit = func(s impl.State) {
		visited++
		if impl.StateOk(s) != 0 {
			t.Fatalf("not right: %v", s)
		}
		var movers []int
		for i, train := range s.Trains {
			if len(train.Path) == 0 || impl.Free(s, train.Path[0]) > 0 {
				movers = append(movers, s.Names[i])
			}
		}
		if got := impl.Moves(s); !slices.Equal(got, movers) {
			t.Fatalf("%v: %v, not %v", s, got, movers)
		}
		for i, name := range s.Names {
			got := impl.Step(s, name)
			want := impl.State{}
			if slices.Contains(movers, name) {
				want = stepped(s, i)
				visit(got)
			}
			if !same(got, want) {
				t.Fatalf("%v: train %d: %v, not %v", s, name, got, want)
			}
		}
	}
	visit(yard())
	visit(crowd(5, 5))
	if visited < 500 {
		t.Errorf("%d states only", visited)
	}
}

// stepped does the move on a copy, without asking whether it can be done.
func stepped(s impl.State, i int) impl.State {
	c := deepCopy(s)
	if path := c.Trains[i].Path; len(path) > 0 {
		c.Trains[i].At, c.Trains[i].Path = path[0], path[1:]
		return c
	}
	c.Trains, c.Names = slices.Delete(c.Trains, i, i+1), slices.Delete(c.Names, i, i+1)
	return c
}
