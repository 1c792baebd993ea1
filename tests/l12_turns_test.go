package tests

import (
	"slices"
	"strings"
	"testing"

	"loop.example/dutyrosters/impl"
)

// wrongTurns says what is wrong with the turns of a word, or "".
func wrongTurns(word string, people int) string {
	rows, ok := impl.TurnRoster(word, people)
	if !ok || !slices.Equal(rows, turnsBy(word, people)) {
		return "the rows"
	}
	if !impl.RosterOk(rows) || rows[0] != word {
		return "that they are a roster, and the first one is the word"
	}
	for _, letter := range eachLetter() {
		if loads := impl.LoadsOf(rows, letter); slices.Max(loads) != slices.Min(loads) {
			return "that each has " + letter + " as often"
		}
	}
	for place := range rows {
		if later, ok := impl.RolledBy(rows[place], len(word)/people); !ok || later != rows[(place+1)%people] {
			return "what one has a week later"
		}
	}
	return ""
}

// TestP76 is for words of all lengths, and all numbers of people.
func TestP76(t *testing.T) {
	t.Parallel()
	for people := 1; people <= impl.MaxRows; people++ {
		for _, word := range turnWords(people) {
			if wrong := wrongTurns(word, people); wrong != "" {
				rows, ok := impl.TurnRoster(word, people)
				t.Fatalf("%q, %d people: %s: %q, %v", word, people, wrong, rows, ok)
			}
		}
	}
}

func TestP76Examples(t *testing.T) {
	for _, told := range []struct {
		word   string
		people int
		rows   string
	}{
		{"rddnnr", 3, "rddnnr dnnrrd nrrddn"}, {"rddnnr", 2, "rddnnr nnrrdd"}, {"rddnnr", 1, "rddnnr"}, {"rrddnnrdnndr", 4, "rrddnnrdnndr dnnrdnndrrrd rdnndrrrddnn ndrrrddnnrdn"},
		// Weeks of one day, and one of the people.
		{"rdn", 3, "rdn dnr nrd"}, {"dn", 2, "dn nd"}, {"rrdn", 4, "rrdn rdnr dnrr nrrd"}, {"nnnn", 4, "nnnn nnnn nnnn nnnn"}, {"r", 1, "r"}, {"n", 1, "n"}, {"rdnrdnrdnrdn", 1, "rdnrdnrdnrdn"}, {"rdnrdnrdnrd", 1, "rdnrdnrdnrd"},
		// Weeks that are alike, and of the most days.
		{"rdrd", 2, "rdrd rdrd"}, {"nnnrrrrrrrrr", 2, "nnnrrrrrrrrr rrrrrrnnnrrr"}, {"nnnrrrrrrrrr", 3, "nnnrrrrrrrrr rrrrrrrrnnnr rrrrnnnrrrrr"},
		// No letters are a multiple of all people, too: each has no days.
		{"", 1, ""}, {"", 2, " "}, {"", 3, "  "}, {"", 4, "   "},
	} {
		rows, ok := impl.TurnRoster(told.word, told.people)
		if !ok || len(rows) != told.people || strings.Join(rows, " ") != told.rows {
			t.Errorf("%q, %d people: %q, %v", told.word, told.people, rows, ok)
		}
	}
}

// TestP76P77Others is for words that so many people cannot do in turn.
func TestP76P77Others(t *testing.T) {
	t.Parallel()
	othersThanTurns(func(word string, people int) {
		if rows, ok := impl.TurnRoster(word, people); rows != nil || ok {
			t.Errorf("%q, %d people: %q, %v", word, people, rows, ok)
		}
		for _, needs := range allNeeds() {
			if impl.TurnCovers(word, people, needs) {
				t.Errorf("%q, %d people, %v: it covers", word, people, needs)
			}
		}
	})
}

// wrongTurnCover says what is wrong with whether the turns of a word cover needs, or "".
func wrongTurnCover(word string, people int, needs impl.Needs) string {
	covers := impl.TurnCovers(word, people, needs)
	week := len(word) / people
	switch {
	case covers != coversBy(turnsBy(word, people), needs):
		return "whether all days are covered"
	case covers != impl.CoverOk(weeksOf(word, people), needs):
		return "whether the first week is covered"
	case !covers:
		return ""
	case impl.CountOf(word, "d") != needs.Light*week || impl.CountOf(word, "n") != needs.Dark*week:
		return "how often the word has d and n"
	}
	for roll := range len(word) + 1 {
		if rolled, _ := impl.RolledBy(word, roll); !impl.TurnCovers(rolled, people, needs) {
			return rolled
		}
	}
	return ""
}

// TestP77 is for words of all lengths, all numbers of people, and all needs.
func TestP77(t *testing.T) {
	t.Parallel()
	for people := 1; people <= impl.MaxRows; people++ {
		many := map[impl.Needs]int{}
		for _, word := range turnWords(people) {
			for _, needs := range allNeeds() {
				if wrong := wrongTurnCover(word, people, needs); wrong != "" {
					t.Fatalf("%q, %d people, %v: %s", word, people, needs, wrong)
				}
				if word != "" && impl.TurnCovers(word, people, needs) {
					many[needs]++
				}
			}
		}
		for _, needs := range allNeeds() {
			if (many[needs] > 2) != (needs.Light+needs.Dark <= people) {
				t.Errorf("%d people, %v: just %d words cover them", people, needs, many[needs])
			}
		}
	}
}

func TestP77Examples(t *testing.T) {
	for _, told := range []struct {
		word   string
		people int
		needs  impl.Needs
		covers bool
	}{
		{"rddnnr", 3, needsOf(1, 1), true}, {"rddnnr", 3, needsOf(1, 0), false}, {"rddnnr", 3, needsOf(0, 1), false}, {"rddnnr", 3, needsOf(0, 0), false}, {"rddnnr", 2, needsOf(1, 1), false}, {"rddnnr", 1, needsOf(1, 1), false},
		{"rrddnn", 3, needsOf(1, 1), true}, {"rrddnn", 3, needsOf(1, 0), false}, {"rdnrdn", 3, needsOf(1, 1), true}, {"rdrdrd", 3, needsOf(1, 0), false}, {"rrrddd", 2, needsOf(1, 0), true}, {"dndndn", 2, needsOf(1, 1), true},
		// As often in all, but not on each day.
		{"rdrd", 2, needsOf(1, 0), false}, {"rdrd", 4, needsOf(2, 0), true}, {"nnnrrr", 2, needsOf(0, 1), true}, {"nrnrnr", 2, needsOf(0, 1), true}, {"nnrrnr", 2, needsOf(0, 1), false}, {"rrdnnd", 3, needsOf(1, 1), true}, {"rrdnnn", 3, needsOf(1, 1), false},
		// The last day alone lacks what the others have.
		{"rrrrrdddddnn", 2, needsOf(1, 0), false}, {"rrrrrrdddddd", 2, needsOf(1, 0), true}, {"rrrrrrdddddr", 2, needsOf(1, 0), false}, {"rrrdddnnndrr", 4, needsOf(1, 1), false}, {"rrrdddnnnrrr", 4, needsOf(1, 1), true}, {"rrrdddnnnrrn", 4, needsOf(1, 1), false},
		// Weeks of one day: just how often the word has each letter.
		{"rdn", 3, needsOf(1, 1), true}, {"nrd", 3, needsOf(1, 1), true}, {"rdd", 3, needsOf(2, 0), true}, {"drd", 3, needsOf(2, 0), true}, {"rrr", 3, needsOf(0, 0), true}, {"nndd", 4, needsOf(2, 2), true}, {"nndr", 4, needsOf(1, 2), true}, {"nndr", 4, needsOf(2, 1), false}, {"nnnn", 4, needsOf(0, 4), true},
		// One of the people: the same letter each day.
		{"rrrrrr", 1, needsOf(0, 0), true}, {"dddddddddddd", 1, needsOf(1, 0), true}, {"n", 1, needsOf(0, 1), true}, {"n", 1, needsOf(1, 0), false}, {"nnr", 1, needsOf(0, 1), false}, {"rrd", 1, needsOf(0, 0), false}, {"d", 1, needsOf(2, 0), false}, {"r", 1, needsOf(0, 1), false},
		// No days lack nothing.
		{"", 1, needsOf(0, 0), true}, {"", 1, needsOf(2, 2), true}, {"", 4, needsOf(1, 1), true},
	} {
		if covers := impl.TurnCovers(told.word, told.people, told.needs); covers != told.covers {
			t.Errorf("%q, %d people, %v: %v", told.word, told.people, told.needs, covers)
		}
	}
}

// TestP77NoNeeds is for what are no needs.
func TestP77NoNeeds(t *testing.T) {
	for _, needs := range badNeeds() {
		for people := 1; people <= impl.MaxRows; people++ {
			for _, word := range []string{"", "r", "d", "n", "dn", "nn", "rdn", "ddn", "rdnr", "ddnn", "nnnn", "rddnnr", "rdnrdnrdnrdn", "dddddddddddd", "nnnnnnnnnnnn"} {
				if impl.TurnCovers(word, people, needs) {
					t.Errorf("%q, %d people, %v: it covers", word, people, needs)
				}
			}
		}
	}
}

// wrongOver says what is wrong with whether a word may be done over and over for a term, where it is told, or "".
func wrongOver(term []impl.Mark, word string, told bool) string {
	if impl.TurnOk(term, word) != told {
		return "whether it may"
	}
	if m, ok := impl.MachineOf(term); !ok || impl.RingOk(m, word) != told {
		return "whether it is a ring"
	}
	for by := range len(word) + 1 {
		if roll, _ := impl.RolledBy(word, by); impl.TurnOk(term, roll) != told {
			return roll
		}
	}
	return ""
}

// TestP78 is for terms of all shapes, and their words of few letters, told by all rows of states of their rules.
func TestP78(t *testing.T) {
	t.Parallel()
	for at, term := range slices.Concat(rosterTerms(), nearTerms(1, 7)[:60]) {
		if !hasMachineBy(term) {
			continue
		}
		most := 3
		if at < 12 {
			most = 5
		}
		told := aroundOf(term)
		for _, word := range wordsUpTo(most) {
			if wrong := wrongOver(term, word, told.ring(word)); wrong != "" {
				t.Fatalf("%q, %q: %v: %s", impl.TermText(term), word, impl.TurnOk(term, word), wrong)
			}
		}
	}
}

// TestP78Rules is for all rules alone, and words of up to MaxWord letters.
func TestP78Rules(t *testing.T) {
	t.Parallel()
	words := append(wordsUpTo(5)[1:], longWords()...)
	for _, rule := range allRules() {
		term := []impl.Mark{isRule(rule)}
		for _, word := range words {
			if wrong := wrongOver(term, word, overAndOverBy(rule, word)); wrong != "" {
				t.Fatalf("%v, %q: %v: %s", rule, word, impl.TurnOk(term, word), wrong)
			}
		}
	}
}

// TestP78Twice is for rules of at most so many n in a row, which a word keeps twice if it may be done over and over.
func TestP78Twice(t *testing.T) {
	t.Parallel()
	for many := 1; many <= 3; many++ {
		term := []impl.Mark{isRule(rowOf("n", many))}
		over := 0
		for _, word := range wordsUpTo(7) {
			if impl.TurnOk(term, word) {
				over++
				if !impl.KeepsTerm(term, word+word) {
					t.Fatalf("%d in a row, %q", many, word)
				}
			}
		}
		if over < 500 {
			t.Errorf("%d in a row: just %d words", many, over)
		}
	}
}

func TestP78Examples(t *testing.T) {
	for _, told := range []struct {
		text string
		word string
		over bool
	}{
		// It would break the rules just where it begins again.
		{"n*1&n/d", "dnr", true}, {"n*1&n/d", "dn", false}, {"n*1&n/d", "rdn", true}, {"n*1", "dn", true}, {"n*1", "nrn", false}, {"n*1", "n", false}, {"n*2", "n", false}, {"n*2", "nnr", true}, {"n*2", "nrnn", false}, {"n/d", "n", true}, {"n/d", "drn", false}, {"n/d", "ddnr", true}, {"r/r", "r", false}, {"r/r", "rd", true},
		// Done once, it would not keep the rules, as its first run goes on with the last one.
		{"n^2", "nrn", true}, {"n^2", "nr", false}, {"n^2", "n", true}, {"n^4", "nnrnn", true}, {"n^4", "nnrn", false}, {"r^3&d^2", "rdddrr", true}, {"r^3&d^2", "rdddr", false},
		// What may be so often in all is never done over and over, what must be so often may lack.
		{"n<5", "n", false}, {"n<5", "r", true}, {"n<0", "rd", true}, {"r<5", "rdn", false}, {"n>5", "r", true}, {"n>1", "n", true}, {"r<2&d<2&n>1", "n", true}, {"r<2&n<1", "d", true}, {"r<1&d<1", "rn", false},
		{"r<0|r>1", "rdnrdn", true}, {"!r*1", "d", true}, {"!r*1", "rrrr", true}, {"!n/d", "nd", true}, {"!n<4", "rdn", true}, {"n*1|d*1", "nnd", true}, {"n*1|d*1", "nndd", false}, {"n*1|d*1", "dd", true},
		// No word keeps it.
		{"r<0&r>1", "r", false}, {"r<0&r>1", "d", false}, {"n>3&n<2", "rd", false},
		// The most letters of a word, which are more than days of a roster.
		{"n*2", "nnrnnrnnrnnrnr", true}, {"n*2", "nnrnnrnnrnnrnn", false}, {"n*2", "rnnrnnrnnrnnr", true}, {"d*4", "rrrrrrrrrrrrrr", true}, {"d*4", "dddddddddddddd", false}, {"d^4", "dddddddddddddd", true},
	} {
		if over := impl.TurnOk(termIn(told.text), told.word); over != told.over {
			t.Errorf("%q, %q: %v", told.text, told.word, over)
		}
	}
}

// TestP78Others is for the empty word, for what are no words and no terms, and for terms without a machine.
func TestP78Others(t *testing.T) {
	t.Parallel()
	for _, term := range slices.Concat(termsOfOneRule(), keptByAll(), keptByNone(), termsIn("n*1&n/d", "!n*1")) {
		for _, word := range append(badWords(), "") {
			if impl.TurnOk(term, word) {
				t.Errorf("%q, %q: it may", impl.TermText(term), word)
			}
		}
	}
	for _, term := range append(badTerms(), largeTerms()...) {
		for _, word := range append(badWords(), "", "r", "d", "n", "rdn", "dnr", "rrrrrrrrrrrrrr") {
			if impl.TurnOk(term, word) {
				t.Errorf("%v, %q: it may", term, word)
			}
		}
	}
}

// wrongFirst says what is wrong with the first word for all that is found for a term that has a machine, or ""; right ones are told in order.
func wrongFirst(term []impl.Mark, people int, days int, needs impl.Needs, right []string) string {
	word, ok := impl.FirstTurn(term, people, days, needs)
	switch {
	case ok != (len(right) > 0):
		return "whether there is one"
	case !ok && word != "":
		return "a word beside false"
	case !ok:
		return ""
	case word != right[0]:
		return "it is not the first one"
	case len(word) != people*days || !impl.TurnCovers(word, people, needs) || !impl.TurnOk(term, word):
		return "it is not right"
	}
	rows, _ := impl.TurnRoster(word, people)
	for _, row := range rows {
		if strings.IndexByte(letters, word[0]) > strings.IndexByte(letters, row[0]) || wordOrder(word, row) > 0 {
			return "rolled by weeks it is before"
		}
	}
	return ""
}

// TestP79 is for terms of some shapes, all numbers of people and of days, and all needs.
func TestP79(t *testing.T) {
	t.Parallel()
	var told []around
	var terms [][]impl.Mark
	for _, term := range append(rosterTerms(), nearTerms(1, 7)[:20]...) {
		if hasMachineBy(term) {
			terms = append(terms, term)
			told = append(told, aroundOf(term))
		}
	}
	found, none := 0, 0
	for _, size := range turnsFound() {
		for _, needs := range allNeeds() {
			covering := coveringWords(size[0], size[1], needs)
			for at, term := range terms {
				var right []string
				if first := slices.IndexFunc(covering, told[at].ring); first >= 0 {
					right = covering[first:]
					found++
				} else {
					none++
				}
				if wrong := wrongFirst(term, size[0], size[1], needs, right); wrong != "" {
					word, ok := impl.FirstTurn(term, size[0], size[1], needs)
					t.Fatalf("%q, %d people, %d days, %v: %s: %q, %v", impl.TermText(term), size[0], size[1], needs, wrong, word, ok)
				}
			}
		}
	}
	if found < 500 || none < 500 {
		t.Errorf("just %d words are found, and %d times none", found, none)
	}
}

func TestP79Examples(t *testing.T) {
	for _, told := range []struct {
		text   string
		people int
		days   int
		needs  impl.Needs
		word   string
	}{
		{"n*1&n/d", 3, 2, needsOf(1, 1), "rdnrdn"}, {"n*2&n/d", 3, 2, needsOf(1, 1), "rrddnn"}, {"n*2", 3, 2, needsOf(1, 1), "rrddnn"}, {"n*1", 2, 2, needsOf(1, 1), ""}, {"n*2", 2, 2, needsOf(1, 1), "ddnn"},
		{"d^2", 2, 2, needsOf(1, 0), "rrdd"}, {"d*1", 2, 2, needsOf(1, 0), ""}, {"d*1", 2, 3, needsOf(1, 0), "rdrdrd"}, {"d*2", 2, 2, needsOf(1, 0), "rrdd"}, {"d*2", 2, 3, needsOf(1, 0), "rdrdrd"}, {"d*3", 2, 3, needsOf(1, 0), "rrrddd"}, {"r^2", 2, 3, needsOf(1, 1), "dddnnn"},
		// Weeks of one day.
		{"n*1&n/d", 3, 1, needsOf(1, 1), "rdn"}, {"d/n", 3, 1, needsOf(1, 1), "rnd"}, {"n*1&n/d", 2, 1, needsOf(1, 1), ""}, {"n*1", 2, 1, needsOf(1, 1), "dn"}, {"d^2", 3, 1, needsOf(1, 0), ""}, {"d^2", 3, 1, needsOf(2, 0), "rdd"}, {"d^3", 3, 1, needsOf(2, 0), ""}, {"d^3", 3, 1, needsOf(3, 0), "ddd"}, {"n*1", 3, 1, needsOf(0, 3), ""}, {"n*4", 3, 1, needsOf(0, 3), ""}, {"n^4", 3, 1, needsOf(0, 3), "nnn"}, {"n/d", 2, 1, needsOf(0, 0), "rr"},
		// One of the people: the same letter each day.
		{"n*1", 1, 1, needsOf(0, 0), "r"}, {"n*1", 1, 1, needsOf(1, 0), "d"}, {"n*1", 1, 1, needsOf(0, 1), ""}, {"n^2", 1, 1, needsOf(0, 1), "n"}, {"n*1", 1, 6, needsOf(0, 0), "rrrrrr"}, {"n*1", 1, 6, needsOf(1, 0), "dddddd"}, {"d*4", 1, 5, needsOf(1, 0), ""}, {"d*4", 1, 3, needsOf(1, 0), ""}, {"n^4", 1, 3, needsOf(0, 1), "nnn"}, {"n^4", 1, 6, needsOf(0, 1), "nnnnnn"},
		// Done once it does not keep the rules, but over and over it may.
		{"r^3", 1, 1, needsOf(0, 0), "r"}, {"n>5", 1, 1, needsOf(0, 0), "r"}, {"r>5&n>5", 2, 1, needsOf(1, 0), "rd"}, {"r<5", 1, 1, needsOf(0, 0), ""}, {"r<5", 1, 1, needsOf(1, 0), "d"}, {"r<5", 3, 2, needsOf(1, 1), ""}, {"r<5", 3, 2, needsOf(2, 1), "ddddnn"}, {"r<0", 3, 2, needsOf(1, 2), "ddnnnn"},
		// The rules that any word keeps, and those that none does.
		{"r<0|r>1", 3, 2, needsOf(1, 1), "rrddnn"}, {"r<0|r>1", 2, 3, needsOf(1, 0), "rrrddd"}, {"r<0|r>1", 3, 2, needsOf(0, 2), "rrnnnn"}, {"r<0|r>1", 3, 2, needsOf(0, 0), "rrrrrr"}, {"r<0|r>1", 3, 2, needsOf(3, 0), "dddddd"}, {"r<0|r>1", 2, 3, needsOf(0, 2), "nnnnnn"}, {"r<0&r>1", 3, 1, needsOf(1, 1), ""}, {"r<0&r>1", 1, 1, needsOf(0, 0), ""},
		// More than all people are needed.
		{"r<0|r>1", 1, 1, needsOf(1, 1), ""}, {"r<0|r>1", 2, 3, needsOf(1, 2), ""}, {"r<0|r>1", 3, 2, needsOf(4, 0), ""}, {"r<0|r>1", 3, 1, needsOf(0, 4), ""},
	} {
		word, ok := impl.FirstTurn(termIn(told.text), told.people, told.days, told.needs)
		if word != told.word || ok != (told.word != "") {
			t.Errorf("%v: %q, %v", told, word, ok)
		}
	}
}

// checkNoTurn checks that no word is found for all.
func checkNoTurn(t *testing.T, term []impl.Mark, people int, days int, needs impl.Needs) {
	t.Helper()
	if word, ok := impl.FirstTurn(term, people, days, needs); word != "" || ok {
		t.Errorf("%v, %d people, %d days, %v: %q, %v", term, people, days, needs, word, ok)
	}
}

// TestP79Others is for numbers of people and of days that are none, among them such that come round to a small number if they are multiplied, for what are no needs and no terms, and for terms without a machine.
func TestP79Others(t *testing.T) {
	t.Parallel()
	free := termIn("n*1|!n*1")
	numbers := []int{-1 << 63, -1<<63 + 1, -100, -6, -3, -2, -1, 0, 1, 2, 3, 4, 5, 6, 7, 8, 12, 14, 100, 1 << 32, 1 << 61, 1 << 62, 1<<62 + 1, 1<<62 + 2, 0x5555555555555555, 0x5555555555555556, 0x5555555555555557, 1<<63 - 2, 1<<63 - 1}
	for _, people := range numbers {
		for _, days := range numbers {
			if slices.Contains(turnsFound(), [2]int{people, days}) {
				if word, ok := impl.FirstTurn(free, people, days, needsOf(0, 0)); !ok || word != strings.Repeat("r", people*days) {
					t.Errorf("%d people, %d days: %q, %v", people, days, word, ok)
				}
				continue
			}
			for _, needs := range []impl.Needs{{}, needsOf(1, 0), needsOf(0, 1), needsOf(1, 1), needsOf(2, 2)} {
				checkNoTurn(t, free, people, days, needs)
			}
		}
	}
	for _, size := range turnsFound() {
		for _, needs := range badNeeds() {
			checkNoTurn(t, free, size[0], size[1], needs)
		}
		for _, term := range append(badTerms(), largeTerms()...) {
			checkNoTurn(t, term, size[0], size[1], needsOf(0, 0))
			checkNoTurn(t, term, size[0], size[1], needsOf(1, 0))
		}
	}
}

// TestTurnsChangeNothing is for terms, which are not written to, not even behind their ends, and for results, which share no memory.
func TestTurnsChangeNothing(t *testing.T) {
	term := append(termIn("n*1&n/d"), notMark)
	terms := slices.Clone(term)
	kept := term[:len(term)-1]
	for range 2 {
		rows, ok := impl.TurnRoster("rddnnr", 3)
		if !ok || !slices.Equal(rows, []string{"rddnnr", "dnnrrd", "nrrddn"}) {
			t.Error(rows, ok)
		}
		spoiledRows(rows)
		if !impl.TurnCovers("rddnnr", 3, needsOf(1, 1)) || !impl.TurnOk(kept, "rdn") {
			t.Error("what is told is kept")
		}
		if word, ok := impl.FirstTurn(kept, 3, 2, needsOf(1, 1)); !ok || word != "rdnrdn" {
			t.Error(word, ok)
		}
	}
	if !slices.Equal(term, terms) {
		t.Error("the term is written to")
	}
}
