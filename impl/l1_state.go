package impl

import "slices"

const (
	MaxSections = 40
	MaxTrains   = 5
	MaxPath     = 8
)

const (
	maxWeight = 100
	maxName   = 1000
)

// Train is on a section, with the sections that it has yet to go to, in order; each move that it waits weighs so much.
type Train struct {
	At     int
	Path   []int
	Weight int
}

// State is how many trains each section holds, and the trains that are there yet, each with its number.
type State struct {
	Room   []int
	Trains []Train
	Names  []int
}

// standing is how many trains stand on each section; an array, so that a copy of it is a copy of all counts.
type standing [MaxSections]int

// progress is how far each train of a first state has come: how many moves it has done. One that has left has done one
// more than its Path is long. A struct with an array can be the key of a map, which a State cannot.
type progress struct {
	done [MaxTrains]int8
}

// StateOk asks in the order of the codes: each check leans on the ones before it, so that none reaches outside a list.
func StateOk(s State) int {
	switch {
	case !sizesOk(s):
		return 1
	case !roomsOk(s.Room):
		return 2
	case !trainsOk(s.Trains, len(s.Room)):
		return 3
	case !namesOk(s.Names):
		return 4
	case !allFit(s):
		return 5
	}
	return 0
}

func Free(s State, section int) int {
	if StateOk(s) != 0 || !isSection(section, len(s.Room)) {
		return -1
	}
	return s.Room[section] - standingOf(s.Trains)[section]
}

func Moves(s State) []int {
	if StateOk(s) != 0 {
		return nil
	}
	var movers []int
	for i, name := range s.Names {
		if canMove(s, progress{}, i) {
			movers = append(movers, name)
		}
	}
	return movers
}

func Step(s State, train int) State {
	if StateOk(s) != 0 {
		return State{}
	}
	mover := slices.Index(s.Names, train)
	if mover < 0 || !canMove(s, progress{}, mover) {
		return State{}
	}
	return stateBehind(s, progress{}.moved(mover))
}

func sizesOk(s State) bool {
	return inRange(len(s.Room), 1, MaxSections) && len(s.Trains) <= MaxTrains && len(s.Names) == len(s.Trains)
}

func roomsOk(rooms []int) bool {
	for _, room := range rooms {
		if !inRange(room, 1, MaxTrains) {
			return false
		}
	}
	return true
}

func trainsOk(trains []Train, sections int) bool {
	for _, t := range trains {
		if !isSection(t.At, sections) || !pathOk(t, sections) || !inRange(t.Weight, 1, maxWeight) {
			return false
		}
	}
	return true
}

func pathOk(t Train, sections int) bool {
	if len(t.Path) > MaxPath {
		return false
	}
	before := t.At
	for _, section := range t.Path {
		if !isSection(section, sections) || section == before {
			return false
		}
		before = section
	}
	return true
}

func namesOk(names []int) bool {
	for i, name := range names {
		if !inRange(name, 0, maxName) || i > 0 && name <= names[i-1] {
			return false
		}
	}
	return true
}

func allFit(s State) bool {
	on := standingOf(s.Trains)
	for section, room := range s.Room {
		if on[section] > room {
			return false
		}
	}
	return true
}

func inRange(n, low, high int) bool { return low <= n && n <= high }

func isSection(section, sections int) bool { return inRange(section, 0, sections-1) }

// standingOf is for trains that are all on sections: it does not ask again.
func standingOf(trains []Train) standing {
	var on standing
	for _, t := range trains {
		on[t.At]++
	}
	return on
}

// endOf is the progress behind which all have left: each train has done its Path and one move more.
func endOf(first State) progress {
	var end progress
	for i, t := range first.Trains {
		end.done[i] = int8(len(t.Path) + 1)
	}
	return end
}

// moved counts on a copy: the progress ahead of the move stays as it is.
func (p progress) moved(mover int) progress {
	p.done[mover]++
	return p
}

func (p progress) hasLeft(t Train, index int) bool { return int(p.done[index]) > len(t.Path) }

// trainBehind is for a train that has not left; its Path is a piece of the first one yet.
func (p progress) trainBehind(t Train, index int) Train {
	if done := p.done[index]; done > 0 {
		t.At, t.Path = t.Path[done-1], t.Path[done:]
	}
	return t
}

// canMove is for a first state that is right and a train of it, by its place in the list.
func canMove(first State, p progress, mover int) bool {
	if p.hasLeft(first.Trains[mover], mover) {
		return false
	}
	path := p.trainBehind(first.Trains[mover], mover).Path
	return len(path) == 0 || countOn(first, p, path[0]) < first.Room[path[0]]
}

func countOn(first State, p progress, section int) int {
	count := 0
	for i, t := range first.Trains {
		if !p.hasLeft(t, i) && p.trainBehind(t, i).At == section {
			count++
		}
	}
	return count
}

// stateBehind copies every list, even the ones that stay as they are: an answer shares no memory with an argument.
func stateBehind(first State, p progress) State {
	behind := State{Room: copied(first.Room)}
	for i, t := range first.Trains {
		if p.hasLeft(t, i) {
			continue
		}
		t = p.trainBehind(t, i)
		t.Path = copied(t.Path)
		behind.Trains = append(behind.Trains, t)
		behind.Names = append(behind.Names, first.Names[i])
	}
	return behind
}

// copied starts from nil: slices.Clone of an empty list would still point into the old one.
func copied(list []int) []int { return append([]int(nil), list...) }
