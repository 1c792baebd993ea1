package tests

import (
	"slices"
	"strings"
	"testing"

	"loop.example/dutyrosters/impl"
)

// wrongFound says what is wrong with the first right roster, and with how many there are, for a term that has a machine, or ""; all are told by these words, which keep the term.
func wrongFound(term []impl.Mark, words []string, people int, days int, needs impl.Needs) string {
	all := rostersBy(words, people, needs)
	first, ok := impl.FirstRoster(term, people, days, needs)
	switch {
	case impl.CountRosters(term, people, days, needs) != len(all):
		return "how many there are"
	case ok != (len(all) > 0) || !slices.Equal(first, firstBy(all)):
		return "the first one"
	case !ok && first != nil:
		return "a roster beside false"
	case ok && (len(first) != people || len(first[0]) != days || !impl.RightOk(term, first, needs)):
		return "it is not right"
	case ok && people > 1 && days > 0 && strings.IndexByte(letters, first[0][0]) > strings.IndexByte(letters, first[1][0]):
		return "its first letters"
	}
	return ""
}

// checkFound checks the rosters that are found for a term, of each number of people, of at most so many days, and for all needs; it returns how many there are in all that have days.
func checkFound(t *testing.T, term []impl.Mark, most int) int {
	t.Helper()
	many := 0
	for days := range most + 1 {
		words := keptWords(term, days)
		for people := 1; people <= 3; people++ {
			for _, needs := range allNeeds() {
				if wrong := wrongFound(term, words, people, days, needs); wrong != "" {
					first, ok := impl.FirstRoster(term, people, days, needs)
					t.Fatalf("%q, %d people, %d days, %v: %s: %q, %v, of %d", impl.TermText(term), people, days, needs, wrong, first, ok, impl.CountRosters(term, people, days, needs))
				}
				if days > 0 {
					many += impl.CountRosters(term, people, days, needs)
				}
			}
		}
	}
	return many
}

// TestP69P70 is for the terms of all rules, and of some shapes, for few days.
func TestP69P70(t *testing.T) {
	t.Parallel()
	many := 0
	for _, term := range slices.Concat(termsOfOneRule(), rosterTerms(), nearTerms(1, 7)[:40]) {
		if hasMachineBy(term) {
			many += checkFound(t, term, 3)
		}
	}
	if many < 1000 {
		t.Errorf("just %d rosters are found", many)
	}
}

// TestP69P70Long is for terms that are kept by few words of five days.
func TestP69P70Long(t *testing.T) {
	t.Parallel()
	for _, text := range []string{"n*1&n/d&d^2&r^2", "r>1&d>2&n>2", "d^3|n^4", "n*0&d>2&r>2", "r<1&d*1&n*1", "!(r^2|d^2)", "d>2&d<2&n>1&n<1", "r/r&d/d&n/n&d>2"} {
		checkFound(t, termIn(text), 5)
	}
}

// foundTold has what is known by hand of the right rosters for a term, people, days and needs: the rows of the first one, beside each other, and how many there are.
type foundTold struct {
	text   string
	people int
	days   int
	needs  impl.Needs
	first  string
	many   int
}

// foundsTold returns what is known by hand, where there is a right roster.
func foundsTold() []foundTold {
	return []foundTold{
		{"n*1&n/d", 3, 1, needsOf(1, 1), "r d n", 6}, {"n*1&n/d", 3, 2, needsOf(1, 1), "rd dn nr", 12}, {"n*1&n/d", 1, 2, needsOf(0, 0), "rr", 1},
		// The rules that any word keeps.
		{"r<5", 1, 5, needsOf(0, 0), "rrrrr", 1}, {"r<5", 1, 5, needsOf(1, 0), "ddddd", 1}, {"r<5", 1, 5, needsOf(0, 1), "nnnnn", 1},
		{"r<5", 2, 5, needsOf(1, 0), "rrrrr ddddd", 32}, {"r<5", 2, 5, needsOf(1, 1), "ddddd nnnnn", 32}, {"r<5", 2, 5, needsOf(0, 2), "nnnnn nnnnn", 1}, {"r<5", 2, 3, needsOf(0, 1), "rrr nnn", 8},
		{"r<5", 3, 5, needsOf(0, 0), "rrrrr rrrrr rrrrr", 1}, {"r<5", 3, 5, needsOf(1, 0), "rrrrr rrrrr ddddd", 243}, {"r<5", 3, 5, needsOf(1, 1), "rrrrr ddddd nnnnn", 7776},
		{"r<5", 3, 5, needsOf(2, 1), "ddddd ddddd nnnnn", 243}, {"r<5", 3, 5, needsOf(0, 2), "rrrrr nnnnn nnnnn", 243}, {"r<5", 3, 5, needsOf(3, 0), "ddddd ddddd ddddd", 1}, {"r<5", 3, 4, needsOf(1, 2), "dddd nnnn nnnn", 81},
		// What is begun first is not ended, as one day has not d for all who lack it.
		{"d>1", 3, 3, needsOf(1, 0), "rrd rdr drr", 6}, {"d>1&n>1", 2, 2, needsOf(1, 1), "dn nd", 2}, {"r>1&d>1&n>1", 3, 3, needsOf(1, 1), "rdn dnr nrd", 12}, {"d>2", 2, 4, needsOf(1, 0), "rrdd ddrr", 6},
		{"d^2&r^2", 2, 4, needsOf(1, 0), "rrrr dddd", 4}, {"d<1", 3, 3, needsOf(1, 0), "rrd rdr drr", 6}, {"n*1", 2, 3, needsOf(0, 1), "rnr nrn", 2}, {"r*1&d*1", 2, 4, needsOf(1, 0), "rdrd drdr", 2}, {"!r*2", 2, 4, needsOf(0, 0), "rrrr rrrr", 1},
		// No days: just the empty word, whatever is needed.
		{"n*1", 1, 0, needsOf(0, 0), "", 1}, {"n*1", 1, 0, needsOf(4, 0), "", 1}, {"n*1", 2, 0, needsOf(2, 1), " ", 1}, {"n*1", 3, 0, needsOf(0, 4), "  ", 1}, {"!r>1", 3, 0, needsOf(1, 1), "  ", 1}, {"r<0", 3, 0, needsOf(1, 1), "  ", 1},
	}
}

func TestP69P70Examples(t *testing.T) {
	for _, told := range foundsTold() {
		term := termIn(told.text)
		first, ok := impl.FirstRoster(term, told.people, told.days, told.needs)
		if !ok || len(first) != told.people || strings.Join(first, " ") != told.first {
			t.Errorf("%v: %q, %v", told, first, ok)
		}
		if many := impl.CountRosters(term, told.people, told.days, told.needs); many != told.many {
			t.Errorf("%v: %d", told, many)
		}
	}
}

// checkNone checks that there is no right roster, though all arguments are valid.
func checkNone(t *testing.T, term []impl.Mark, people int, days int, needs impl.Needs) {
	t.Helper()
	if first, ok := impl.FirstRoster(term, people, days, needs); first != nil || ok {
		t.Errorf("%q, %d people, %d days, %v: %q, %v", impl.TermText(term), people, days, needs, first, ok)
	}
	if many := impl.CountRosters(term, people, days, needs); many != 0 {
		t.Errorf("%q, %d people, %d days, %v: %d", impl.TermText(term), people, days, needs, many)
	}
}

// TestP69P70None is for needs that nobody can cover, and terms that no row can keep.
func TestP69P70None(t *testing.T) {
	for people := 1; people <= 3; people++ {
		for _, needs := range allNeeds() {
			for days := 1; days <= 5; days++ {
				if needs.Light+needs.Dark > people {
					checkNone(t, termIn("r<5"), people, days, needs)
					checkNone(t, termIn("n*1&n/d"), people, days, needs)
				}
				if needs != (impl.Needs{}) {
					checkNone(t, termIn("d<0&n<0"), people, days, needs)
				}
				if needs.Light+needs.Dark < people {
					checkNone(t, termIn("r<0"), people, days, needs)
				}
			}
			for _, term := range keptByNone() {
				for days := range 6 {
					checkNone(t, term, people, days, needs)
				}
			}
			checkNone(t, termIn("r>1"), people, 0, needs)
			checkNone(t, termIn("n>2"), people, 0, needs)
		}
	}
	checkNone(t, termIn("n*1&n/d"), 1, 2, needsOf(0, 1))
	checkNone(t, termIn("n*1&n/d"), 1, 2, needsOf(1, 1))
	// Each row alone could keep it, but not all of them.
	checkNone(t, termIn("d>1"), 3, 2, needsOf(1, 0))
	checkNone(t, termIn("d>2"), 3, 5, needsOf(1, 0))
	checkNone(t, termIn("n<1"), 3, 4, needsOf(0, 1))
	checkNone(t, termIn("d^2&n^2&r^2"), 3, 1, needsOf(1, 1))
}

// TestP70OneRow is for one of the people and no needs, where there is one roster exactly if so many rests keep the term.
func TestP70OneRow(t *testing.T) {
	t.Parallel()
	for _, term := range slices.Concat(termsOfOneRule(), rosterTerms(), nearTerms(1, 9)) {
		if !hasMachineBy(term) {
			continue
		}
		for days := range 6 {
			rests := strings.Repeat("r", days)
			right := 0
			if impl.KeepsTerm(term, rests) {
				right = 1
			}
			if many := impl.CountRosters(term, 1, days, needsOf(0, 0)); many != right {
				t.Fatalf("%q, %d days: %d", impl.TermText(term), days, many)
			}
			if first, ok := impl.FirstRoster(term, 1, days, needsOf(0, 0)); ok != (right == 1) || ok && first[0] != rests {
				t.Fatalf("%q, %d days: %q, %v", impl.TermText(term), days, first, ok)
			}
		}
	}
}

// TestP70AnyWord is for the rules that any word keeps: there are as many rosters as ways to give each day.
func TestP70AnyWord(t *testing.T) {
	ways := map[impl.Needs][]int{
		needsOf(0, 0): {1, 1, 1}, needsOf(1, 0): {1, 2, 3}, needsOf(0, 1): {1, 2, 3}, needsOf(2, 0): {0, 1, 3}, needsOf(0, 2): {0, 1, 3}, needsOf(1, 1): {0, 2, 6},
		needsOf(3, 0): {0, 0, 1}, needsOf(0, 3): {0, 0, 1}, needsOf(2, 1): {0, 0, 3}, needsOf(1, 2): {0, 0, 3},
	}
	for _, needs := range allNeeds() {
		for people := 1; people <= 3; people++ {
			day := 0
			if each, ok := ways[needs]; ok {
				day = each[people-1]
			}
			right := 1
			for days := range 6 {
				for _, text := range []string{"r<5", "d<5", "n<5", "r<0|r>1"} {
					if many := impl.CountRosters(termIn(text), people, days, needs); many != right {
						t.Errorf("%q, %d people, %d days, %v: %d, not %d", text, people, days, needs, many, right)
					}
				}
				right *= day
			}
		}
	}
}

// checkRefused checks that no rosters are found, as some argument is not valid.
func checkRefused(t *testing.T, term []impl.Mark, people int, days int, needs impl.Needs) {
	t.Helper()
	if first, ok := impl.FirstRoster(term, people, days, needs); first != nil || ok {
		t.Errorf("%v, %d people, %d days, %v: %q, %v", term, people, days, needs, first, ok)
	}
	if many := impl.CountRosters(term, people, days, needs); many != -1 {
		t.Errorf("%v, %d people, %d days, %v: %d", term, people, days, needs, many)
	}
}

// TestP69P70Others is for numbers of people and of days that are none, for what are no needs and no terms, and for terms without a machine.
func TestP69P70Others(t *testing.T) {
	t.Parallel()
	free := termIn("r<5")
	numbers := []int{-1 << 63, -100, -3, -2, -1, 0, 1, 2, 3, 4, 5, 6, 7, 12, 13, 14, 100, 1 << 32, 1 << 62, 1<<63 - 1}
	for _, people := range numbers {
		for _, days := range numbers {
			for _, needs := range []impl.Needs{{}, needsOf(1, 0), needsOf(1, 1)} {
				if people < 1 || people > 3 || days < 0 || days > 5 {
					checkRefused(t, free, people, days, needs)
				} else if impl.CountRosters(free, people, days, needs) < 0 {
					t.Errorf("%d people, %d days are refused", people, days)
				}
			}
		}
	}
	for people := 1; people <= 3; people++ {
		for _, days := range []int{0, 1, 5} {
			for _, needs := range badNeeds() {
				checkRefused(t, free, people, days, needs)
			}
			for _, term := range append(badTerms(), largeTerms()...) {
				checkRefused(t, term, people, days, needsOf(0, 0))
			}
		}
	}
}

// TestRostersChangeNothing is for rosters and terms, which are not written to, not even behind their ends, and for results, which share no memory.
func TestRostersChangeNothing(t *testing.T) {
	t.Parallel()
	term := append(termIn("n*1&n/d"), notMark)
	terms := slices.Clone(term)
	kept := term[:len(term)-1]
	for _, roster := range someRosters() {
		room := append(slices.Clone(roster), "behind", "it")
		before := slices.Clone(room)
		rows := room[:len(roster)]
		impl.RosterOk(rows)
		impl.DayOf(rows, 0)
		impl.CoverOk(rows, needsOf(1, 1))
		impl.KeepsAll(kept, rows)
		impl.RightOk(kept, rows, needsOf(1, 1))
		exchanged, _ := impl.RowsExchanged(rows, 0, len(rows)-1)
		spoiledRows(exchanged)
		if !slices.Equal(room, before) {
			t.Fatalf("%q is written to, or shared", roster)
		}
	}
	first, _ := impl.FirstRoster(kept, 3, 2, needsOf(1, 1))
	spoiledRows(first)
	if again, ok := impl.FirstRoster(kept, 3, 2, needsOf(1, 1)); !ok || !slices.Equal(again, []string{"rd", "dn", "nr"}) {
		t.Error(again, ok)
	}
	if impl.CountRosters(kept, 3, 2, needsOf(1, 1)) != 12 || !slices.Equal(term, terms) {
		t.Error("the term is written to, or what is found is kept")
	}
}

// spoiledRows writes to rows, and to the room behind their end.
func spoiledRows(rows []string) {
	rows = rows[:cap(rows)]
	for at := range rows {
		rows[at] = "spoiled"
	}
}
