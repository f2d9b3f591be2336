package impl

import "slices"

const (
	MaxSections = 40
	MaxTrains   = 5
	MaxPath     = 8
)

const (
	maxWeight = 100
	maxName   = 1000
)

// Train is on a section, with the sections that it has yet to go to, in order; each move that it waits weighs so much.
type Train struct {
	At     int
	Path   []int
	Weight int
}

// State is how many trains each section holds, and the trains that are there yet, each with its number.
type State struct {
	Room   []int
	Trains []Train
	Names  []int
}

// standing is how many trains stand on each section; an array, so that a copy of it is a copy of all counts.
type standing [MaxSections]int

// StateOk asks in the order of the codes: each check leans on the ones before it, so that none reaches outside a list.
func StateOk(s State) int {
	switch {
	case !sizesOk(s):
		return 1
	case !roomsOk(s.Room):
		return 2
	case !trainsOk(s.Trains, len(s.Room)):
		return 3
	case !namesOk(s.Names):
		return 4
	case !allFit(s):
		return 5
	}
	return 0
}

func Free(s State, section int) int {
	if StateOk(s) != 0 || !isSection(section, len(s.Room)) {
		return -1
	}
	return s.Room[section] - standingOf(s.Trains)[section]
}

func Moves(s State) []int {
	if StateOk(s) != 0 {
		return nil
	}
	var movers []int
	for i, name := range s.Names {
		if canMove(s, i) {
			movers = append(movers, name)
		}
	}
	return movers
}

func Step(s State, train int) State {
	if StateOk(s) != 0 {
		return State{}
	}
	mover := slices.Index(s.Names, train)
	if mover < 0 || !canMove(s, mover) {
		return State{}
	}
	return moved(s, mover)
}

func sizesOk(s State) bool {
	return inRange(len(s.Room), 1, MaxSections) && len(s.Trains) <= MaxTrains && len(s.Names) == len(s.Trains)
}

func roomsOk(rooms []int) bool {
	for _, room := range rooms {
		if !inRange(room, 1, MaxTrains) {
			return false
		}
	}
	return true
}

func trainsOk(trains []Train, sections int) bool {
	for _, t := range trains {
		if !isSection(t.At, sections) || !pathOk(t, sections) || !inRange(t.Weight, 1, maxWeight) {
			return false
		}
	}
	return true
}

func pathOk(t Train, sections int) bool {
	if len(t.Path) > MaxPath {
		return false
	}
	before := t.At
	for _, section := range t.Path {
		if !isSection(section, sections) || section == before {
			return false
		}
		before = section
	}
	return true
}

func namesOk(names []int) bool {
	for i, name := range names {
		if !inRange(name, 0, maxName) || i > 0 && name <= names[i-1] {
			return false
		}
	}
	return true
}

func allFit(s State) bool {
	on := standingOf(s.Trains)
	for section, room := range s.Room {
		if on[section] > room {
			return false
		}
	}
	return true
}

func inRange(n, low, high int) bool { return low <= n && n <= high }

func isSection(section, sections int) bool { return inRange(section, 0, sections-1) }

// standingOf is for trains that are all on sections: it does not ask again.
func standingOf(trains []Train) standing {
	var on standing
	for _, t := range trains {
		on[t.At]++
	}
	return on
}

// canMove is for a state that is right and a train that is there, by its place in the list.
func canMove(s State, mover int) bool {
	path := s.Trains[mover].Path
	return len(path) == 0 || standingOf(s.Trains)[path[0]] < s.Room[path[0]]
}

// moved copies every list, even the ones that stay as they are: an answer shares no memory with an argument.
func moved(s State, mover int) State {
	behind := State{Room: copied(s.Room)}
	for i, t := range s.Trains {
		if i == mover {
			if len(t.Path) == 0 {
				continue
			}
			t.At, t.Path = t.Path[0], t.Path[1:]
		}
		t.Path = copied(t.Path)
		behind.Trains = append(behind.Trains, t)
		behind.Names = append(behind.Names, s.Names[i])
	}
	return behind
}

// copied starts from nil: slices.Clone of an empty list would still point into the old one.
func copied(list []int) []int { return append([]int(nil), list...) }
