package tests

import (
	"strings"

	"loop.example/dutyrosters/impl"
)

// turnsBy returns the rows of a word that so many people do in turn, letter by letter: each next one is a week further on.
func turnsBy(word string, people int) []string {
	week := len(word) / people
	rows := make([]string, people)
	for place := range rows {
		for day := range len(word) {
			at := (day + place*week) % len(word)
			rows[place] += word[at : at+1]
		}
	}
	return rows
}

// weeksOf returns the weeks of a word that so many people do in turn, one behind the other: what all do in the first week.
func weeksOf(word string, people int) []string {
	week := len(word) / people
	var weeks []string
	for place := range people {
		weeks = append(weeks, word[place*week:(place+1)*week])
	}
	return weeks
}

// turnWords returns words that so many people may do in turn: all of few letters, drawn ones of all lengths, some with all weeks alike, and such whose turns cover needs.
func turnWords(people int) []string {
	d := &drawing{seed: uint64(76 + people)}
	var words []string
	for many := 0; many <= impl.MaxDays; many += people {
		if many <= 6 {
			words = append(words, wordsOf(many)...)
			continue
		}
		for range 60 {
			words = append(words, d.drawnRow(many), strings.Repeat(d.drawnRow(many/people), people))
		}
	}
	for _, needs := range allNeeds() {
		for _, rows := range coveringRosters(36, people, needs) {
			if word := strings.Join(rows, ""); len(word) <= impl.MaxDays {
				words = append(words, word)
			}
		}
	}
	return words
}

// othersThanTurns calls with a word and a number of people who cannot do it in turn: texts that are no words, words of too many letters, letters that are no multiple of the people, and numbers of people that are none.
func othersThanTurns(call func(word string, people int)) {
	for people := 1; people <= impl.MaxRows; people++ {
		for _, word := range badWords() {
			call(word, people)
		}
		call(strings.Repeat("rdn", 5)[:13], people)
		call(strings.Repeat("rdn", 5)[:14], people)
		for _, word := range longWords() {
			if len(word) > impl.MaxDays || len(word)%people != 0 {
				call(word, people)
			}
		}
		for _, word := range wordsUpTo(6) {
			if len(word)%people != 0 {
				call(word, people)
			}
		}
	}
	for _, people := range []int{-1 << 63, -1<<63 + 1, -12, -4, -3, -2, -1, 0, 5, 6, 7, 12, 13, 100, 1 << 32, 1 << 62, 1<<63 - 1} {
		for _, word := range append(badWords(), "", "r", "rd", "rdn", "rdnr", "rdnrd", "rdnrdn", "rdnrdnrdnrdn", "rdnrdnrdnrdnr") {
			call(word, people)
		}
	}
}

// around has a machine of any number of states, which never stops, that takes what keeps a term, and its parts.
type around struct {
	whole impl.Machine
	parts []int
}

func aroundOf(term []impl.Mark) around {
	whole := wholeOf(term)
	return around{whole, partsBy(whole)}
}

// ring reports whether a word leads from some state, from which some word leads to an end, to one that takes the same.
func (a around) ring(word string) bool {
	for state := range a.whole.States {
		if word != "" && !isLost(a.whole, a.parts, state) && a.parts[goesTo(a.whole, state, word)] == a.parts[state] {
			return true
		}
	}
	return false
}

// overAndOverBy reports whether a word of one letter or more may be done over and over for a rule alone, as it is told by the word beside itself: what must never be is never, what may be so often alone never comes, runs are long enough all around, and what lacks at first is there in the end.
func overAndOverBy(rule impl.Rule, word string) bool {
	switch rule.Kind {
	case impl.RuleRow, impl.RuleNever:
		return keepsBy(rule, strings.Repeat(word, 6))
	case impl.RuleRun:
		return keepsBy(rule, strings.Trim(strings.Repeat(word, 3), rule.Letter))
	case impl.RuleAtMost:
		return !strings.Contains(word, rule.Letter)
	}
	return true
}

// turnsFound returns the numbers of people and of days of a week for which a word is found, written out.
func turnsFound() [][2]int {
	return [][2]int{{1, 1}, {1, 2}, {1, 3}, {1, 4}, {1, 5}, {1, 6}, {2, 1}, {2, 2}, {2, 3}, {3, 1}, {3, 2}}
}

// coveringWords returns all words of so many people times so many days of a week whose turns cover needs, in the order r, d, n.
func coveringWords(people int, days int, needs impl.Needs) []string {
	var words []string
	for _, word := range wordsOf(people * days) {
		if coversBy(weeksOf(word, people), needs) {
			words = append(words, word)
		}
	}
	return words
}
