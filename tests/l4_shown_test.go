package tests

import (
	"fmt"
	"slices"
	"strings"
	"testing"

	"loop.example/regulator/impl"
)

func TestShown(t *testing.T) {
	for _, c := range []struct {
		name string
		s    impl.State
		want string
	}{
		{"no trains", with(rooms(1, 1), nil), ""},
		{"no trains, 40 sections", with(rooms(40, 5), []int{}, []impl.Train{}...), ""},
		{"leaves", with(rooms(1, 1), []int{0}, train(0)), "0 at 0\n"},
		{"leaves, 1000", with(rooms(40, 1), []int{1000}, train(39)), "1000 at 39\n"},
		{"all leave", crowd(3, 3), "0 at 0\n1 at 0\n2 at 0\n"},
		{"path of 8", walker(8), "0 at 0 1 0 1 0 1 0 1 0\n"},
		{"yard", yard(), "2 at 0 3 1 0\n5 at 1\n9 at 2 1 2 waits for 5\n11 at 3 2\n"},
		{"waits for two", behindOne(2), "1 at 0 1 waits for 2 3\n2 at 1 0 waits for 1\n3 at 1\n"},
		{"room for one more", behindOne(3), "1 at 0 1\n2 at 1 0 waits for 1\n3 at 1\n"},
		{"stuck", circle(2), "0 at 0 1 waits for 10\n10 at 1 0 waits for 0\nunsafe\n"},
		{"stuck, two ahead", twoAhead(1), "1 at 0 1 waits for 2 3\n2 at 1 2 waits for 4\n3 at 1 2 waits for 4\n4 at 2 0 waits for 1\nunsafe\n"},
		{"one more place", twoAhead(2), "1 at 0 1 waits for 2 3\n2 at 1 2 waits for 4\n3 at 1 2 waits for 4\n4 at 2 0\n"},
		{"unsafe, both can move", with(rooms(3, 1), []int{3, 5}, train(0, 1, 2), train(2, 1, 0)), "3 at 0 1 2\n5 at 2 1 0\nunsafe\n"},
		{"unsafe, the third can leave", with(rooms(3, 1), []int{3, 4, 9}, train(0, 1), train(1, 0), train(2)), "3 at 0 1 waits for 4\n4 at 1 0 waits for 3\n9 at 2\nunsafe\n"},
		{"a move must not be, and the state is safe", mayNotCross(), "1 at 0 1 3\n2 at 2 1 0\n"},
		{"the first of the Path alone", with(rooms(3, 1), []int{1, 2, 3}, train(0, 1, 2), train(1), train(2)), "1 at 0 1 2 waits for 2\n2 at 1\n3 at 2\n"},
		{"one to four digits", with([]int{4, 1}, []int{0, 9, 10, 999, 1000}, train(0), train(0, 1, 0), train(0, 1), train(0), train(1, 0)),
			"0 at 0\n9 at 0 1 0 waits for 1000\n10 at 0 1 waits for 1000\n999 at 0\n1000 at 1 0 waits for 0 9 10 999\n"},
		{"waits for all digits", with([]int{1, 4}, []int{0, 7, 42, 123, 1000}, train(1), train(0, 1), train(1), train(1), train(1)),
			"0 at 1\n7 at 0 1 waits for 0 42 123 1000\n42 at 1\n123 at 1\n1000 at 1\n"},
		{"sections of two digits", with(rooms(40, 1), []int{100}, train(9, 10, 39, 0, 38)), "100 at 9 10 39 0 38\n"},
		{"5 long paths", long(), longShown},
	} {
		if got := impl.Shown(c.s); got != c.want {
			t.Errorf("%s: %q, not %q", c.name, got, c.want)
		}
	}
}

const longShown = `0 at 0 1 2 3 4 5 6 7 8
1 at 8 9 10 11 12 13 14 15 16
500 at 16 17 18 19 20 21 22 23 24
999 at 24 25 26 27 28 29 30 31 32
1000 at 32 33 34 35 36 37 38 39 0
`

func TestWeightsAreNotShown(t *testing.T) {
	if a, b := impl.Shown(weighed(yard(), 1, 1, 1, 1)), impl.Shown(weighed(yard(), 100, 99, 98, 97)); a != b || a == "" {
		t.Errorf("%q, %q", a, b)
	}
}

// line is put together from single words, without asking the program.
func line(s impl.State, i int) string {
	words := []any{s.Names[i], "at", s.Trains[i].At}
	for _, section := range s.Trains[i].Path {
		words = append(words, section)
	}
	if !slices.Contains(movable(s), i) {
		words = append(words, "waits", "for")
		for _, name := range onSection(s, s.Trains[i].Path[0]) {
			words = append(words, name)
		}
	}
	return fmt.Sprintln(words...)
}

func TestShownAgainstItsWords(t *testing.T) {
	var waiting, unsafe, empty, unsafeMoving int
	d := dice(12)
	for range 20000 {
		s := drawn(&d)
		for i := range s.Names {
			s.Names[i] *= []int{1, 13, 60}[len(s.Room)%3]
		}
		want := ""
		for i := range s.Trains {
			want += line(s, i)
		}
		safe := canEmpty(s, map[string]bool{})
		if !safe {
			want += "unsafe\n"
		}
		if got := impl.Shown(s); got != want {
			t.Fatalf("%v: %q, not %q", s, got, want)
		}
		waiting += count(strings.Contains(want, "waits"))
		unsafe += count(!safe)
		empty += count(want == "")
		unsafeMoving += count(!safe && !strings.Contains(want, "waits"))
	}
	if min(waiting, unsafe, empty, unsafeMoving) < 30 {
		t.Errorf("too few: %d where one waits, %d unsafe, %d empty, %d unsafe where all can move", waiting, unsafe, empty, unsafeMoving)
	}
}

// What the guard comes to is never shown as unsafe.
func TestNoStateOfTheGuardIsShownUnsafe(t *testing.T) {
	d := dice(13)
	shown := 0
	for range 500 {
		s := drawn(&d)
		for _, a := range impl.Guard(s, drawnAsks(&d, s)) {
			if text := impl.Shown(a.State); strings.Contains(text, "unsafe") || strings.Count(text, "\n") != len(a.State.Trains) {
				t.Fatalf("%v: %q", a.State, text)
			}
			shown++
		}
	}
	if shown < 1000 {
		t.Errorf("%d only", shown)
	}
}

func TestNothingIsShownOfAStateThatIsNotRight(t *testing.T) {
	wrong := map[string]impl.State{
		"zero value":             {},
		"no trains, 41 sections": with(rooms(41, 1), nil),
		"no trains, a name":      with(rooms(1, 1), []int{1}),
		"no trains, room for 6":  with(rooms(1, 6), nil),
		"6 trains":               crowd(6, 5),
		"path of 9":              walker(9),
		"5 on room for 4":        crowd(5, 4),
		"name 1001":              with(rooms(1, 1), []int{1001}, train(0)),
		"name -1":                with(rooms(1, 1), []int{-1}, train(0)),
	}
	for code, list := range faults() {
		for i, fault := range list {
			open, jam := with(rooms(40, 1), []int{1, 2}, train(0), train(1)), circle(2)
			fault(&open)
			fault(&jam)
			if impl.StateOk(open) != code || impl.StateOk(jam) != code {
				t.Errorf("fault %d of code %d", i, code)
			}
			wrong[fmt.Sprintf("fault %d of code %d", i, code)] = open
			wrong[fmt.Sprintf("fault %d of code %d, not safe", i, code)] = jam
		}
	}
	for name, s := range wrong {
		if got := impl.Shown(s); got != "" {
			t.Errorf("%s: %q", name, got)
		}
	}
}
