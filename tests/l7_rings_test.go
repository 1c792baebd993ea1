package tests

import (
	"slices"
	"strings"
	"testing"

	"loop.example/dutyrosters/impl"
)

func TestRingBound(t *testing.T) {
	if impl.MaxRing != 6 {
		t.Fatal(impl.MaxRing)
	}
}

// wrongFrom says what is wrong with the states to which two words lead from a state, one after the other and put together, or "".
func wrongFrom(m impl.Machine, state int, word string, behind string) string {
	by := impl.StateFrom(m, state, word)
	if by != goesTo(m, state, word) {
		return "by " + word
	}
	together := impl.StateFrom(m, state, word+behind)
	switch {
	case len(word+behind) > impl.MaxWord:
		if together != -2 {
			return "by the text " + word + behind
		}
	case by == -1:
		if together != -1 {
			return "stopped by " + word + ", but not by " + word + behind
		}
	case together != impl.StateFrom(m, by, behind) || together != goesTo(m, state, word+behind):
		return "by " + word + " and " + behind
	}
	return ""
}

// TestP41 is for two words, one after the other.
func TestP41(t *testing.T) {
	t.Parallel()
	words := wordsUpTo(2)
	long := longWords()
	for at, m := range ringMachines() {
		for state := range m.States {
			for number, word := range words {
				for _, behind := range append(words, long[(at+state+number)%len(long)]) {
					if wrong := wrongFrom(m, state, word, behind); wrong != "" {
						t.Fatalf("%v, from %d: %s", m, state, wrong)
					}
				}
			}
		}
	}
}

// TestP41Long is for words of up to MaxWord letters, cut at each place.
func TestP41Long(t *testing.T) {
	t.Parallel()
	for _, m := range longRings() {
		for state := range m.States {
			for _, word := range longWords()[:40] {
				for at := range len(word) + 1 {
					if wrong := wrongFrom(m, state, word[:at], word[at:]); wrong != "" {
						t.Fatalf("%v, from %d: %s", m, state, wrong)
					}
				}
			}
		}
	}
}

// TestP41Begin is for words from 0, by which it is StateAfter.
func TestP41Begin(t *testing.T) {
	t.Parallel()
	for _, m := range someMachines() {
		for _, word := range append(wordsUpTo(3), longWords()[:30]...) {
			if from := impl.StateFrom(m, 0, word); from != impl.StateAfter(m, word) {
				t.Fatalf("%v, %q: %d", m, word, from)
			}
		}
		for state := range m.States {
			if from := impl.StateFrom(m, state, ""); from != state {
				t.Fatalf("%v, from %d by no letter: %d", m, state, from)
			}
		}
	}
}

func TestP41Examples(t *testing.T) {
	rules, _ := impl.MachineOf(termIn("n*1&n/d"))
	apart := made("000", 0, 0, 0, 2, -1, 1, 1, 2, -1)
	for _, told := range []struct {
		m     impl.Machine
		state int
		word  string
		to    int
	}{
		{rules, 0, "", 0}, {rules, 1, "", 1}, {rules, 0, "n", 1}, {rules, 1, "n", -1}, {rules, 1, "d", -1}, {rules, 1, "r", 0}, {rules, 1, "rn", 1}, {rules, 1, "nr", -1},
		{rules, 2, "n", -2}, {rules, 2, "", -2}, {rules, -1, "", -2}, {rules, -1, "r", -2}, {rules, -2, "r", -2},
		{apart, 1, "r", 2}, {apart, 1, "rr", 1}, {apart, 1, "rdr", 1}, {apart, 2, "dddd", 2}, {apart, 2, "n", -1}, {apart, 1, "nnrdr", 1}, {apart, 1, "d", -1}, {apart, 0, "ndr", 0},
		{takesNone(), 0, "", 0}, {takesNone(), 0, "r", -1}, {takesAll(), 0, "rdnrdnrdnrdnrd", 0}, {takesAll(), 0, "rdnrdnrdnrdnrdn", -2},
		{cycle(48), 40, "rrrrrrrrrrrrrr", 6}, {cycle(48), 47, "d", 0}, {cycle(48), 48, "d", -2}, {chain(48), 46, "n", 47}, {chain(48), 47, "n", -1}, {chain(48), 30, "nnn", 33},
	} {
		if to := impl.StateFrom(told.m, told.state, told.word); to != told.to {
			t.Errorf("%v, from %d by %q: %d, not %d", told.m, told.state, told.word, to, told.to)
		}
	}
}

func TestP41Others(t *testing.T) {
	words := []string{"", "r", "d", "n", "rdn", "rrrrrrrrrrrrrr"}
	for _, bad := range badMachines() {
		for _, word := range append(badWords(), words...) {
			for state := -2; state < 3; state++ {
				if to := impl.StateFrom(bad, state, word); to != -2 {
					t.Errorf("%v, from %d by %q: %d", bad, state, word, to)
				}
			}
		}
	}
	for _, m := range plainMachines() {
		for _, word := range badWords() {
			for _, state := range []int{-1, 0, m.States - 1, m.States} {
				if to := impl.StateFrom(m, state, word); to != -2 {
					t.Errorf("%v, from %d by %q: %d", m, state, word, to)
				}
			}
		}
		for _, state := range []int{-1 << 63, -2, -1, m.States, m.States + 1, 49, 1 << 62, 1<<63 - 1} {
			for _, word := range words {
				if to := impl.StateFrom(m, state, word); to != -2 {
					t.Errorf("%v, from %d by %q: %d", m, state, word, to)
				}
			}
		}
	}
}

// wrongRing says what is wrong with the state from which a word is a ring of a machine, or "".
func wrongRing(m impl.Machine, word string) string {
	state := impl.RingState(m, word)
	if state != ringBy(m, word) {
		return "the state"
	}
	if impl.RingOk(m, word) != (state >= 0) {
		return "that it is one"
	}
	if state < 0 {
		return ""
	}
	if impl.StateFrom(m, state, word) != state {
		return "that it leads back"
	}
	if twice := word + word; impl.WordOk(twice) && impl.StateFrom(m, state, twice) != state {
		return "that twice it leads back"
	}
	for lesser := range state {
		if impl.StateFrom(m, lesser, word) == lesser {
			return "that it leads back from a lesser state"
		}
	}
	return ""
}

// TestP42 is for the states from which words lead back, and for what are rings.
func TestP42(t *testing.T) {
	t.Parallel()
	words := wordsUpTo(4)
	for _, m := range ringMachines() {
		for _, word := range words {
			if wrong := wrongRing(m, word); wrong != "" {
				t.Fatalf("%v, %q: %s", m, word, wrong)
			}
		}
	}
}

// TestP42Long is for words of up to MaxWord letters.
func TestP42Long(t *testing.T) {
	t.Parallel()
	for _, m := range longRings() {
		for _, word := range append(wordsOf(6), longWords()...) {
			if wrong := wrongRing(m, word); wrong != "" {
				t.Fatalf("%v, %q: %s", m, word, wrong)
			}
		}
	}
}

func TestP42Examples(t *testing.T) {
	rules, _ := impl.MachineOf(termIn("n*1&n/d"))
	runs, _ := impl.MachineOf(termIn("n^2"))
	apart := made("0000", -1, 1, 1, 2, 2, 3, 3, 3, 1, 1, 0, 2)
	for _, told := range []struct {
		m     impl.Machine
		word  string
		state int
	}{
		{rules, "", -1}, {rules, "r", 0}, {rules, "d", 0}, {rules, "n", -1}, {rules, "rn", 1}, {rules, "nr", 0}, {rules, "nd", -1}, {rules, "dn", -1}, {rules, "rdnr", 0}, {rules, "nn", -1},
		{runs, "n", 2}, {runs, "nr", -1}, {runs, "nnr", 0}, {runs, "nrn", 1}, {runs, "rnn", 2}, {runs, "nnnnnnnnnnnnnn", 2},
		// Neither need any word lead to the state, nor need it be an end.
		{takesNone(), "", -1}, {takesNone(), "r", -1}, {takesEmpty(), "r", -1}, {takesAll(), "", -1}, {takesAll(), "n", 0}, {made("0", 0, 0, 0), "rdn", 0},
		{made("01", -1, -1, -1, 1, 1, 1), "r", 1}, {made("01", -1, -1, -1, 1, 1, 1), "", -1}, {roundBy("rdn", 45), "rdn", 45}, {roundBy("rdn", 45), "nrd", 47}, {roundBy("rdn", 45), "ndr", -1},
		{apart, "r", -1}, {apart, "rrr", 1}, {apart, "nn", -1}, {apart, "nnn", 1}, {apart, "n", -1}, {apart, "ddd", -1}, {apart, "dddd", 0},
		{cycle(3), "r", -1}, {cycle(3), "rdn", 0}, {cycle(14), "rdnrdnrdnrdnrd", 0}, {cycle(15), "rdnrdnrdnrdnrd", -1}, {cycle(15), "rdnrdnrdnrdnrdn", -1}, {chain(48), "n", -1},
	} {
		if state := impl.RingState(told.m, told.word); state != told.state {
			t.Errorf("%v, %q: %d, not %d", told.m, told.word, state, told.state)
		}
		if ring := impl.RingOk(told.m, told.word); ring != (told.state >= 0) {
			t.Errorf("%v, %q: %v", told.m, told.word, ring)
		}
	}
}

// TestP42P43Others is for what is no machine or no word, and so no ring.
func TestP42P43Others(t *testing.T) {
	for _, bad := range badMachines() {
		for _, word := range append(badWords(), "", "r", "d", "n", "rdn") {
			if state := impl.RingState(bad, word); state != -1 || impl.RingOk(bad, word) {
				t.Errorf("%v, %q: %d", bad, word, state)
			}
		}
	}
	for _, m := range plainMachines() {
		for _, word := range append(badWords(), "") {
			if state := impl.RingState(m, word); state != -1 || impl.RingOk(m, word) {
				t.Errorf("%v, %q: %d", m, word, state)
			}
		}
	}
}

// wrongRolls says which roll of a word, or the word twice, is not a ring as the word is, or "".
func wrongRolls(m impl.Machine, word string) string {
	ring := impl.RingOk(m, word)
	for by := range len(word) + 1 {
		roll, ok := impl.RolledBy(word, by)
		if !ok || impl.RingOk(m, roll) != ring {
			return roll
		}
	}
	if twice := word + word; ring && impl.WordOk(twice) && !impl.RingOk(m, twice) {
		return twice
	}
	return ""
}

// TestP43 is for rings that are rolled, and for rings twice.
func TestP43(t *testing.T) {
	t.Parallel()
	words := wordsUpTo(4)
	for _, m := range ringMachines() {
		for _, word := range words {
			if wrong := wrongRolls(m, word); wrong != "" {
				t.Fatalf("%v, %q: %q", m, word, wrong)
			}
		}
	}
	for _, m := range longRings() {
		for _, word := range append(wordsOf(6), longWords()...) {
			if wrong := wrongRolls(m, word); wrong != "" {
				t.Fatalf("%v, %q: %q", m, word, wrong)
			}
		}
	}
}

// TestP43Rounds is for machines that go round by one word alone: just its rolls are rings, and these over and over.
func TestP43Rounds(t *testing.T) {
	for _, word := range []string{"r", "n", "rd", "nr", "rdn", "nnd", "rrdn", "dndn", "rrrnd"} {
		m := roundBy(word, 3)
		rolls := rollsBy(word)
		for _, tried := range wordsUpTo(len(word)) {
			root := tried != "" && slices.ContainsFunc(rolls, func(roll string) bool {
				return strings.Repeat(roll, len(tried)/len(roll)) == tried
			})
			if ring := impl.RingOk(m, tried); ring != root {
				t.Errorf("by %q goes round: %q: %v", word, tried, ring)
			}
		}
	}
}

// TestP44 is for walks that lead back, counted one by one, and from each state.
func TestP44(t *testing.T) {
	t.Parallel()
	for _, m := range ringMachines() {
		for many := 1; many <= impl.MaxRing; many++ {
			walks := impl.CountWalks(m, many)
			if right := walksForward(m, many); walks != right {
				t.Fatalf("%v, %d letters: %d walks, not %d", m, many, walks, right)
			}
			if many <= 4 && walks != walksBy(m, wordsOf(many)) {
				t.Fatalf("%v, %d letters: %d walks", m, many, walks)
			}
		}
	}
}

// TestP44Long is for walks of up to MaxRing letters, one by one.
func TestP44Long(t *testing.T) {
	t.Parallel()
	for _, m := range longRings() {
		for many := 5; many <= impl.MaxRing; many++ {
			if walks := impl.CountWalks(m, many); walks != walksBy(m, wordsOf(many)) {
				t.Fatalf("%v, %d letters: %d walks", m, many, walks)
			}
		}
	}
}

// TestP44OneLetter is for walks of one letter, which are letters that lead from a state to itself.
func TestP44OneLetter(t *testing.T) {
	t.Parallel()
	for _, m := range someMachines() {
		stay := 0
		for at, to := range m.Next {
			if at/3 == to {
				stay++
			}
		}
		if walks := impl.CountWalks(m, 1); walks != stay {
			t.Fatalf("%v: %d walks, not %d", m, walks, stay)
		}
	}
}

// standing returns a machine of so many states, each of which all letters lead to itself.
func standing(states int) impl.Machine {
	m := made(strings.Repeat("0", states))
	for state := range states {
		m.Next = append(m.Next, state, state, state)
	}
	return m
}

func TestP44Examples(t *testing.T) {
	rules, _ := impl.MachineOf(termIn("n*1&n/d"))
	for _, told := range []struct {
		m     impl.Machine
		walks []int
	}{
		{rules, []int{2, 6, 14, 34, 82, 198}},
		{takesNone(), []int{0, 0, 0, 0, 0, 0}},
		{takesEmpty(), []int{0, 0, 0, 0, 0, 0}},
		{takesAll(), []int{3, 9, 27, 81, 243, 729}},
		{made("0", 0, 0, 0), []int{3, 9, 27, 81, 243, 729}},
		{made("01", -1, -1, -1, 1, 1, 1), []int{3, 9, 27, 81, 243, 729}},
		{made("0", -1, 0, 0), []int{2, 4, 8, 16, 32, 64}},
		{standing(48), []int{144, 432, 1296, 3888, 11664, 34992}},
		{cycle(4), []int{0, 0, 0, 324, 0, 0}},
		{cycle(2), []int{0, 18, 0, 162, 0, 1458}},
		{cycle(48), []int{0, 0, 0, 0, 0, 0}},
		{chain(48), []int{0, 0, 0, 0, 0, 0}},
		{roundBy("rdn", 20), []int{0, 0, 3, 0, 0, 3}},
	} {
		for at, right := range told.walks {
			if walks := impl.CountWalks(told.m, at+1); walks != right {
				t.Errorf("%v, %d letters: %d walks, not %d", told.m, at+1, walks, right)
			}
		}
	}
}

// TestP44P47Others is for what is no machine, and for too few or too many letters.
func TestP44P47Others(t *testing.T) {
	for _, bad := range badMachines() {
		for _, many := range append(badRings(), 1, 2, 6) {
			if walks, necklaces := impl.CountWalks(bad, many), impl.CountNecklaces(bad, many); walks != -1 || necklaces != -1 {
				t.Errorf("%v, %d letters: %d walks, %d necklaces", bad, many, walks, necklaces)
			}
		}
	}
	for _, m := range plainMachines() {
		for _, many := range badRings() {
			if walks, necklaces := impl.CountWalks(m, many), impl.CountNecklaces(m, many); walks != -1 || necklaces != -1 {
				t.Errorf("%v, %d letters: %d walks, %d necklaces", m, many, walks, necklaces)
			}
		}
	}
}

// wordsForRolls returns words that are rolled: someWords, and words of 7 to 14 letters that are one word over and over.
func wordsForRolls() []string {
	words := someWords()
	for _, part := range wordsUpTo(7) {
		if part != "" {
			words = append(words, strings.Repeat(part, impl.MaxWord/len(part)))
		}
	}
	return words
}

// TestP45 is for least rolls.
func TestP45(t *testing.T) {
	t.Parallel()
	for _, word := range wordsForRolls() {
		rolls := rollsBy(word)
		least := impl.LeastRoll(word)
		if least != leastBy(rolls) || !slices.Contains(rolls, least) {
			t.Fatalf("the least roll of %q: %q", word, least)
		}
		if again := impl.LeastRoll(least); again != least {
			t.Fatalf("the least roll of %q, of %q: %q", least, word, again)
		}
		for by := range len(word) + 1 {
			roll, ok := impl.RolledBy(word, by)
			if !ok || impl.LeastRoll(roll) != least {
				t.Fatalf("the least roll of %q is that of %q, but not of %q", least, word, roll)
			}
		}
	}
}

func TestP45Examples(t *testing.T) {
	for word, right := range map[string]string{
		"": "", "r": "r", "d": "d", "n": "n", "nr": "rn", "nd": "dn", "dr": "rd", "rr": "rr", "ndr": "rnd", "dnr": "rdn", "rdn": "rdn", "nnr": "rnn",
		"drdr": "rdrd", "nrnr": "rnrn", "drnr": "rdrn", "dndd": "dddn", "rnrrd": "rrdrn", "nrrdrr": "rrdrrn", "nnnnnnnnnnnnnn": "nnnnnnnnnnnnnn",
		"nrrrrrrrrrrrrr": "rrrrrrrrrrrrrn", "nnnnnnnnnnnnnr": "rnnnnnnnnnnnnn", "drdrdrdrdrdrdr": "rdrdrdrdrdrdrd", "rdrdrdrrdrdrdn": "rrdrdrdnrdrdrd",
	} {
		if least := impl.LeastRoll(word); least != right {
			t.Errorf("the least roll of %q: %q, not %q", word, least, right)
		}
	}
}

// TestP45P46Others is for texts that are no words.
func TestP45P46Others(t *testing.T) {
	for _, word := range append(badWords(), "rdnx", "xrdn", "ndR", strings.Repeat("rd", 8)) {
		if least, rolls := impl.LeastRoll(word), impl.RollsOf(word); least != "" || rolls != -1 {
			t.Errorf("%q: %q, %d", word, least, rolls)
		}
	}
}

// TestP46 is for how many different rolls words have.
func TestP46(t *testing.T) {
	t.Parallel()
	for _, word := range wordsForRolls() {
		rolls := impl.RollsOf(word)
		if rolls != len(rollsBy(word)) {
			t.Fatalf("%q has %d rolls", word, rolls)
		}
		if rolls < 1 || len(word)%rolls != 0 {
			t.Fatalf("%d, the rolls of %q, do not divide its letters", rolls, word)
		}
		if rolled, ok := impl.RolledBy(word, rolls); word != "" && (!ok || rolled != word) {
			t.Fatalf("%q rolled by %d is %q, %v", word, rolls, rolled, ok)
		}
		if twice := word + word; impl.WordOk(twice) && impl.RollsOf(twice) != rolls {
			t.Fatalf("%q has %d rolls, but not %q", word, rolls, twice)
		}
	}
}

func TestP46Examples(t *testing.T) {
	for word, right := range map[string]int{
		"": 1, "r": 1, "d": 1, "n": 1, "rr": 1, "rd": 2, "nnn": 1, "rdn": 3, "rrd": 3, "rdrd": 2, "rddr": 4, "rrdd": 4, "rdrr": 4, "nnnn": 1, "rdnrdn": 3, "rdrdrd": 2,
		"rdrdrn": 6, "rrrrrrrrrrrrrr": 1, "rdrdrdrdrdrdrd": 2, "rrrrrrdrrrrrrd": 7, "rdnrdnrdnrdnrd": 14, "rdnrdnrdnrdn": 3, "rdndrdndrdnd": 4, "rrdnndrrdnnd": 6, "rdrdrdrdrdrdr": 13,
	} {
		if rolls := impl.RollsOf(word); rolls != right {
			t.Errorf("%q has %d rolls, not %d", word, right, rolls)
		}
	}
}

// wrongNecklaces says what is wrong with how many necklaces of just so many letters a machine has, or "".
func wrongNecklaces(m impl.Machine, many int) string {
	words := wordsOf(many)
	necklaces := impl.CountNecklaces(m, many)
	if necklaces != necklacesBy(m, words) {
		return "their number"
	}
	if necklaces > impl.CountWalks(m, many) {
		return "more than walks"
	}
	rings, rolls, least := 0, 0, 0
	for _, word := range words {
		if !impl.RingOk(m, word) {
			continue
		}
		rings++
		if impl.LeastRoll(word) == word {
			least++
			rolls += impl.RollsOf(word)
		}
	}
	if least != necklaces || rolls != rings {
		return "their rolls"
	}
	return ""
}

// TestP47 is for necklaces of at most 4 letters.
func TestP47(t *testing.T) {
	t.Parallel()
	for _, m := range ringMachines() {
		for many := 1; many <= 4; many++ {
			if wrong := wrongNecklaces(m, many); wrong != "" {
				t.Fatalf("%v, %d letters: %s", m, many, wrong)
			}
		}
	}
}

// TestP47Long is for necklaces of up to MaxRing letters.
func TestP47Long(t *testing.T) {
	t.Parallel()
	for _, m := range longRings() {
		for many := 5; many <= impl.MaxRing; many++ {
			if wrong := wrongNecklaces(m, many); wrong != "" {
				t.Fatalf("%v, %d letters: %s", m, many, wrong)
			}
		}
	}
}

func TestP47Examples(t *testing.T) {
	rules, _ := impl.MachineOf(termIn("n*1&n/d"))
	for _, told := range []struct {
		m         impl.Machine
		necklaces []int
	}{
		{rules, []int{2, 4, 6, 11, 18, 38}},
		{takesNone(), []int{0, 0, 0, 0, 0, 0}},
		{takesEmpty(), []int{0, 0, 0, 0, 0, 0}},
		{takesAll(), []int{3, 6, 11, 24, 51, 130}},
		{made("0", 0, 0, 0), []int{3, 6, 11, 24, 51, 130}},
		{made("01", -1, -1, -1, 1, 1, 1), []int{3, 6, 11, 24, 51, 130}},
		{standing(48), []int{3, 6, 11, 24, 51, 130}},
		{made("0", -1, 0, 0), []int{2, 3, 4, 6, 8, 14}},
		{cycle(4), []int{0, 0, 0, 24, 0, 0}},
		{cycle(5), []int{0, 0, 0, 0, 51, 0}},
		{cycle(6), []int{0, 0, 0, 0, 0, 130}},
		{cycle(48), []int{0, 0, 0, 0, 0, 0}},
		{chain(48), []int{0, 0, 0, 0, 0, 0}},
		{roundBy("rdn", 20), []int{0, 0, 1, 0, 0, 1}},
		{roundBy("rdrd", 3), []int{0, 0, 0, 1, 0, 0}},
	} {
		for at, right := range told.necklaces {
			if necklaces := impl.CountNecklaces(told.m, at+1); necklaces != right {
				t.Errorf("%v, %d letters: %d necklaces, not %d", told.m, at+1, necklaces, right)
			}
		}
	}
}

// TestRingsChangeNothing is for machines, which are not written to.
func TestRingsChangeNothing(t *testing.T) {
	for _, m := range ringMachines() {
		before := cloned(m)
		impl.StateFrom(m, 0, "rdn")
		impl.RingState(m, "rdn")
		impl.RingOk(m, "rd")
		impl.CountWalks(m, 6)
		impl.CountNecklaces(m, 3)
		if !equalMachines(m, before) {
			t.Fatalf("%v is written to", before)
		}
	}
}
