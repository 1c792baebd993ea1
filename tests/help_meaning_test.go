package tests

import (
	"slices"
	"sync"

	"loop.example/dutyrosters/impl"
)

// meaning tells whether a term is kept, by which of its rules, told by the places of their marks, are kept.
type meaning func(kept func(place int) bool) bool

// meaningOf returns the meaning of a term whose first mark has a place, by its last mark and its parts.
func meaningOf(t []impl.Mark, begin int) meaning {
	end := len(t) - 1
	switch t[end].Kind {
	case impl.MarkRule:
		return func(kept func(place int) bool) bool { return kept(begin + end) }
	case impl.MarkNot:
		part := meaningOf(t[:end], begin)
		return func(kept func(place int) bool) bool { return !part(kept) }
	}
	at := secondPart(t)
	first, second := meaningOf(t[:at], begin), meaningOf(t[at:end], begin+at)
	if t[end].Kind == impl.MarkAnd {
		return func(kept func(place int) bool) bool { return first(kept) && second(kept) }
	}
	return func(kept func(place int) bool) bool { return first(kept) || second(kept) }
}

// keepsTermBy reports whether a text of any length keeps a term, by keepsBy.
func keepsTermBy(t []impl.Mark, text string) bool {
	return meaningOf(t, 0)(func(place int) bool { return keepsBy(t[place].Its, text) })
}

// partsIn returns all parts of a term, itself as the last one.
func partsIn(t []impl.Mark) [][]impl.Mark {
	end := len(t) - 1
	var parts [][]impl.Mark
	switch t[end].Kind {
	case impl.MarkRule:
	case impl.MarkNot:
		parts = partsIn(t[:end])
	default:
		at := secondPart(t)
		parts = append(partsIn(t[:at]), partsIn(t[at:end])...)
	}
	return append(parts, t)
}

// wholeOf returns a machine, of any number of states, that takes what keeps a term: its states are all rows of states to which one word leads the machines of the rules.
func wholeOf(t []impl.Mark) impl.Machine {
	machines := make([]impl.Machine, len(t))
	for place, mark := range t {
		machines[place], _ = impl.MachineFor(mark.Its)
	}
	kept := meaningOf(t, 0)
	var whole impl.Machine
	rows := [][impl.MaxMarks]int{{}}
	numbers := map[[impl.MaxMarks]int]int{{}: 0}
	for at := 0; at < len(rows); at++ {
		whole.Ends = append(whole.Ends, kept(func(place int) bool { return isEnd(machines[place], rows[at][place]) }))
		for letter := range 3 {
			var to [impl.MaxMarks]int
			for place, mark := range t {
				if mark.Kind == impl.MarkRule {
					to[place] = onFrom(machines[place], rows[at][place], letter)
				}
			}
			number, come := numbers[to]
			if !come {
				number = len(rows)
				numbers[to] = number
				rows = append(rows, to)
			}
			whole.Next = append(whole.Next, number)
		}
	}
	whole.States = len(rows)
	return whole
}

// pairOf returns a machine, of any number of states, that takes the words for which ends holds of whether two machines take them.
func pairOf(a impl.Machine, b impl.Machine, ends func(a bool, b bool) bool) impl.Machine {
	pairs := tuples(a, b)
	numbers := map[[3]int]int{}
	for number, at := range pairs {
		numbers[at] = number
	}
	pair := impl.Machine{States: len(pairs)}
	for _, at := range pairs {
		pair.Ends = append(pair.Ends, ends(isEnd(a, at[0]), isEnd(b, at[1])))
		for letter := range 3 {
			pair.Next = append(pair.Next, numbers[[3]int{onFrom(a, at[0], letter), onFrom(b, at[1], letter)}])
		}
	}
	return pair
}

// partsBy returns for each state of a machine of any number of states, that never stops, a number from 0 on that it shares with just those from which the same words lead to ends: states are parted by rounds.
func partsBy(m impl.Machine) []int {
	parts := make([]int, m.States)
	for state, end := range m.Ends {
		if end {
			parts[state] = 1
		}
	}
	for many := -1; ; {
		numbers := map[[4]int]int{}
		finer := make([]int, m.States)
		for state, part := range parts {
			key := [4]int{part, parts[m.Next[3*state]], parts[m.Next[3*state+1]], parts[m.Next[3*state+2]]}
			number, known := numbers[key]
			if !known {
				number = len(numbers)
				numbers[key] = number
			}
			finer[state] = number
		}
		if len(numbers) == many {
			return finer
		}
		parts, many = finer, len(numbers)
	}
}

// isLost reports whether no word leads from a state of a machine, that never stops, to an end, by partsBy.
func isLost(m impl.Machine, parts []int, state int) bool {
	stays := func(to int) bool { return parts[to] == parts[state] }
	return !m.Ends[state] && stays(m.Next[3*state]) && stays(m.Next[3*state+1]) && stays(m.Next[3*state+2])
}

// leastStates returns how many states the least machine has that takes the same as one of any number of states, all of which are come to, that never stops: of those that lead to no end there is none but the first one.
func leastStates(m impl.Machine) int {
	parts := partsBy(m)
	many := slices.Max(parts) + 1
	for state := range parts {
		if isLost(m, parts, state) {
			return max(1, many-1)
		}
	}
	return many
}

// hasMachineBy reports whether the least machine of each part of a term has at most MaxStates states.
func hasMachineBy(t []impl.Mark) bool {
	for _, part := range partsIn(t) {
		if leastStates(wholeOf(part)) > impl.MaxStates {
			return false
		}
	}
	return true
}

// onlyOne holds if one of two holds, and the other one does not; onlyFirst if it is the first one that holds.
func onlyOne(a bool, b bool) bool   { return a != b }
func onlyFirst(a bool, b bool) bool { return a && !b }

// termShapes returns allTerms, made once: what they have is not changed.
var termShapes = sync.OnceValue(allTerms)

// drawnTerm draws a term of the shape of another one, with rules of these.
func (d *drawing) drawnTerm(shape []impl.Mark, rules []impl.Rule) []impl.Mark {
	t := slices.Clone(shape)
	for place := range t {
		if t[place].Kind == impl.MarkRule {
			t[place] = isRule(rules[d.below(len(rules))])
		}
	}
	return t
}

// nearRules returns rules of which some say the same as others, or imply them.
func nearRules() []impl.Rule {
	return []impl.Rule{
		rowOf("n", 0), atMostOf("n", 0), rowOf("n", 1), neverOf("n", "n"), rowOf("n", 2), atMostOf("n", 2),
		atLeastOf("n", 1), atLeastOf("n", 3), runOf("n", 2), runOf("n", 3), neverOf("n", "d"), atLeastOf("d", 1), neverOf("r", "n"),
	}
}

// nearTerms draws terms of nearRules, so many of each shape of at most so many marks.
func nearTerms(many int, most int) [][]impl.Mark {
	d := &drawing{seed: uint64(100*many + most)}
	var terms [][]impl.Mark
	for _, shape := range termShapes() {
		for range many {
			if len(shape) <= most {
				terms = append(terms, d.drawnTerm(shape, nearRules()))
			}
		}
	}
	return terms
}

// termsOfOneRule returns the terms of all rules alone.
func termsOfOneRule() [][]impl.Mark {
	var terms [][]impl.Mark
	for _, rule := range allRules() {
		terms = append(terms, []impl.Mark{isRule(rule)})
	}
	return terms
}

// termIn returns the term of a text; the tests ask for none that is not read.
func termIn(text string) []impl.Mark {
	t, ok := impl.ReadTerm(text)
	if !ok {
		panic(text + " is no term")
	}
	return t
}

// termsIn returns the terms of these texts.
func termsIn(texts ...string) [][]impl.Mark {
	var terms [][]impl.Mark
	for _, text := range texts {
		terms = append(terms, termIn(text))
	}
	return terms
}

// keptByNone and keptByAll return terms that no word keeps, and that all words keep.
func keptByNone() [][]impl.Mark {
	return termsIn("r<0&r>1", "n*0&!n*0", "!(d*1|!d*1)", "n>3&n<2", "n<0&r>5&d>5&n>5", "n/n&n^2&n>1", "!!(d<4&d>5)", "!(r<5|r>1)", "r/r&!r*1&!n>2")
}

func keptByAll() [][]impl.Mark {
	return termsIn("r<0|r>1", "n*0|!n*0", "!(n>3&n<2)", "n*2|!n*1", "d<5|d>5", "r>5|d>5|(r<5|n>5)", "!(n/n&n^2&n>1)", "n*4|n<3|!n<4")
}

// largeTerms returns terms of which some part has more than MaxStates states, so that they have no machine: of the last six, four are kept by no word, and two by all.
func largeTerms() [][]impl.Mark {
	return termsIn(
		"r>5&d>5&n>5", "r>5&d>5&n>1", "!(r<5&d<3&n<1)", "r<5&d<5&n<1", "!(r>5&d>5&n>5)", "r<5|d<5|n<5", "n*2|r>5&d>5&n>5", "n*2&!(r<5&d<3&n<1)",
		"r<0&(r>5&d>5&n>5)", "r>5&d>5&n>5&r<0", "r<0&r>1&(r>5&d>5&n>5)", "r>5&d>5&n>5&(r<0&r>1)", "r<0|r>1|r>5&d>5&n>5", "r>5&d>5&n>5|(r<0|r>1)",
	)
}
