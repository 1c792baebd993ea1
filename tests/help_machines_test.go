package tests

import (
	"slices"
	"strings"

	"loop.example/dutyrosters/impl"
)

// drawing draws numbers that are the same in each run.
type drawing struct {
	seed uint64
}

// below draws a number from 0 on and less than a bound.
func (d *drawing) below(bound int) int {
	d.seed = d.seed*6364136223846793005 + 1442695040888963407
	return int(d.seed>>33) % bound
}

// made returns a machine with these ends, written as a row of 0 and 1, and these states to which it goes on.
func made(ends string, next ...int) impl.Machine {
	m := impl.Machine{States: len(ends), Next: next}
	for at := range len(ends) {
		m.Ends = append(m.Ends, ends[at] == '1')
	}
	return m
}

// cloned returns a machine that shares no memory with the given one.
func cloned(m impl.Machine) impl.Machine {
	return impl.Machine{States: m.States, Next: slices.Clone(m.Next), Ends: slices.Clone(m.Ends)}
}

func equalMachines(a impl.Machine, b impl.Machine) bool {
	return a.States == b.States && slices.Equal(a.Next, b.Next) && slices.Equal(a.Ends, b.Ends)
}

func isNothing(m impl.Machine) bool {
	return m.States == 0 && len(m.Next) == 0 && len(m.Ends) == 0
}

// takesNone is the least machine that takes no word, takesAll that of all words, and takesEmpty that of the empty word alone.
func takesNone() impl.Machine  { return made("0", -1, -1, -1) }
func takesAll() impl.Machine   { return made("1", 0, 0, 0) }
func takesEmpty() impl.Machine { return made("1", -1, -1, -1) }

// chain returns a machine that takes just the word of so many letters n less one as it has states.
func chain(states int) impl.Machine {
	m := made(strings.Repeat("0", states-1) + "1")
	for state := range states {
		m.Next = append(m.Next, -1, -1, state+1)
	}
	m.Next[len(m.Next)-1] = -1
	return m
}

// cycle returns a machine that takes the words whose number of letters is a multiple of its states.
func cycle(states int) impl.Machine {
	m := made("1" + strings.Repeat("0", states-1))
	for state := range states {
		to := (state + 1) % states
		m.Next = append(m.Next, to, to, to)
	}
	return m
}

// wheel is cycle with the end in the last state, so that it does not take the empty word.
func wheel(states int) impl.Machine {
	m := cycle(states)
	m.Ends[0], m.Ends[states-1] = m.Ends[states-1], m.Ends[0]
	return m
}

// tinyMachines returns all machines of one state, and all of two.
func tinyMachines() []impl.Machine {
	var machines []impl.Machine
	for states := 1; states <= 2; states++ {
		numbers := 1
		for range 3 * states {
			numbers *= states + 1
		}
		for number := range numbers {
			var next []int
			for rest := number; len(next) < 3*states; rest /= states + 1 {
				next = append(next, rest%(states+1)-1)
			}
			for _, ends := range []string{"0", "1", "00", "01", "10", "11"} {
				if len(ends) == states {
					machines = append(machines, made(ends, slices.Clone(next)...))
				}
			}
		}
	}
	return machines
}

// drawnMachine draws a machine with so many states; of 8 letters so many stop, and of 8 states so many are ends.
func (d *drawing) drawnMachine(states int, stops int, ends int) impl.Machine {
	m := impl.Machine{States: states}
	for range 3 * states {
		if d.below(8) < stops {
			m.Next = append(m.Next, -1)
		} else {
			m.Next = append(m.Next, d.below(states))
		}
	}
	for range states {
		m.Ends = append(m.Ends, d.below(8) < ends)
	}
	return m
}

// drawnMachines draws so many machines of 1 state up to a bound.
func drawnMachines(many int, most int) []impl.Machine {
	d := &drawing{seed: uint64(1000*many + most)}
	var machines []impl.Machine
	for range many {
		machines = append(machines, d.drawnMachine(1+d.below(most), d.below(7), d.below(6)))
	}
	return machines
}

// shuffled returns a machine that takes the same, with each state but 0 under another number, and so many copies of states beside them.
func (d *drawing) shuffled(m impl.Machine, copies int) impl.Machine {
	old := []int{0}
	for state := 1; state < m.States; state++ {
		old = slices.Insert(old, 1+d.below(len(old)), state)
	}
	for range copies {
		old = append(old, d.below(m.States))
	}
	x := impl.Machine{States: len(old)}
	for _, state := range old {
		for letter := range 3 {
			to := m.Next[3*state+letter]
			var at []int
			for number, was := range old {
				if was == to {
					at = append(at, number)
				}
			}
			if len(at) == 0 {
				x.Next = append(x.Next, -1)
			} else {
				x.Next = append(x.Next, at[d.below(len(at))])
			}
		}
		x.Ends = append(x.Ends, m.Ends[state])
	}
	return x
}

// plainMachines returns machines that stand for the edges: nothing taken, the empty word, loops, dead and unreached states, chains longer than words, and the most states.
func plainMachines() []impl.Machine {
	loop := made("1", 0, 0, 0)
	return []impl.Machine{
		takesNone(), takesAll(), takesEmpty(), loop,
		made("0", 0, 0, 0), made("0", 0, -1, -1), made("0", -1, 0, 0), made("1", -1, 0, -1), made("1", 0, -1, 0),
		made("01", -1, -1, -1, 1, 1, 1), made("00", 1, 1, 1, 0, 0, 0), made("00", 0, 1, -1, 1, 0, -1),
		made("01", 1, 1, 1, 1, 1, 1), made("10", 1, 1, 1, 1, 1, 1), made("010", 1, 2, 0, -1, 2, 2, 2, 2, 2),
		made("110", 0, 1, -1, 0, 2, -1, 2, 2, 2), made("11", 1, 1, 1, 0, 0, 0), made("11", 1, 0, 0, -1, 0, 0),
		made("0011", 3, 2, 1, -1, 2, -1, -1, -1, 2, 0, -1, -1), made("0110", 2, 1, -1, 3, -1, 3, 3, -1, 3, -1, -1, -1),
		made("0111", 2, 3, 1, 1, 1, 1, 2, 2, 2, 3, 3, 3), made("00010", 4, 4, 2, 1, 1, 3, 2, 3, 4, 0, -1, 4, 4, 4, 4),
		chain(1), chain(2), chain(14), chain(15), chain(16), chain(17), chain(47), chain(48),
		cycle(2), cycle(3), cycle(47), cycle(48), wheel(2), wheel(14), wheel(15), wheel(16), wheel(48),
	}
}

// someMachines returns plainMachines, tinyMachines and drawn ones of all sizes.
func someMachines() []impl.Machine {
	machines := slices.Concat(plainMachines(), tinyMachines(), drawnMachines(400, 6), drawnMachines(120, 48))
	d := &drawing{seed: 7}
	for _, m := range drawnMachines(60, 12) {
		machines = append(machines, d.shuffled(m, d.below(30)))
	}
	return machines
}

// fewMachines returns machines of which all pairs can be tried: none has more than 6 states, so that no pair has more than MaxStates.
func fewMachines() []impl.Machine {
	var machines []impl.Machine
	for _, m := range plainMachines() {
		if m.States <= 6 {
			machines = append(machines, m)
		}
	}
	for at, m := range tinyMachines() {
		if at%97 == 5 {
			machines = append(machines, m)
		}
	}
	return append(machines, drawnMachines(50, 6)...)
}

// badMachines returns values that are no machines.
func badMachines() []impl.Machine {
	bad := []impl.Machine{
		{}, {States: 0, Next: []int{}, Ends: []bool{}}, {Next: []int{0, 0, 0}, Ends: []bool{true}},
		{States: -1, Next: []int{0, 0, 0}, Ends: []bool{true}}, {States: 1}, {States: 1, Next: []int{0, 0, 0}},
		{States: 1, Ends: []bool{true}}, {States: 1 << 62, Next: []int{0, 0, 0}, Ends: []bool{true}},
		{States: -1 << 63, Next: []int{}, Ends: []bool{}}, {States: 1<<63 - 1},
		{States: 1, Next: []int{0, 0, 0}, Ends: []bool{true, false}}, {States: 1, Next: []int{0, 0, 0}, Ends: []bool{}},
		{States: 2, Next: []int{0, 0, 0}, Ends: []bool{true, true}}, {States: 2, Next: []int{0, 1, 0, 0, 1}, Ends: []bool{true, true}},
		{States: 2, Next: []int{0, 1, 0, 0, 1, 0, 1}, Ends: []bool{true, true}}, {States: 2, Next: []int{0, 1, 0, 0, 1, 1}, Ends: []bool{true}},
		{States: 1, Next: []int{0, 0, 0, 0, 0, 0}, Ends: []bool{true}}, {States: 1, Next: []int{0, 0, 0, -1}, Ends: []bool{true}},
		cycle(49), chain(49), cycle(50), cycle(96),
	}
	for _, to := range []int{-1 << 63, -3, -2, 3, 4, 48, 1<<63 - 1} {
		for at := range 9 {
			m := made("110", 0, 1, -1, 0, 2, -1, 2, 2, 2)
			m.Next[at] = to
			bad = append(bad, m)
		}
	}
	return bad
}

// onFrom returns the state to which a machine goes on by a letter, -1 from -1.
func onFrom(m impl.Machine, state int, letter int) int {
	if state < 0 {
		return -1
	}
	return m.Next[3*state+letter]
}

// goesTo returns the state to which a machine goes from a state by a word, the last letter read by itself.
func goesTo(m impl.Machine, state int, word string) int {
	if word == "" {
		return state
	}
	last := len(word) - 1
	return onFrom(m, goesTo(m, state, word[:last]), strings.Index(letters, word[last:]))
}

// isEnd reports whether a state is an end, where -1 is none.
func isEnd(m impl.Machine, state int) bool {
	return state >= 0 && m.Ends[state]
}

// takes reports whether a machine takes a word, by goesTo.
func takes(m impl.Machine, word string) bool {
	return isEnd(m, goesTo(m, 0, word))
}

// waysBetween tells of each two states whether some word leads from one to the other one.
func waysBetween(m impl.Machine) [][]bool {
	ways := make([][]bool, m.States)
	for from := range ways {
		ways[from] = make([]bool, m.States)
		ways[from][from] = true
		for letter := range 3 {
			if to := m.Next[3*from+letter]; to >= 0 {
				ways[from][to] = true
			}
		}
	}
	for by := range ways {
		for from := range ways {
			for to := range ways {
				ways[from][to] = ways[from][to] || ways[from][by] && ways[by][to]
			}
		}
	}
	return ways
}

// isTrimmedOf reports whether a machine is the trimmed one of another one: by the ways between states, and by walking both together.
func isTrimmedOf(x impl.Machine, m impl.Machine) bool {
	ways := waysBetween(m)
	leads := func(state int) bool {
		for end, ends := range m.Ends {
			if ends && ways[state][end] {
				return true
			}
		}
		return false
	}
	old := []int{0}
	for at := 0; at < len(old); at++ {
		if at >= x.States || len(x.Next) != 3*x.States || len(x.Ends) != x.States || x.Ends[at] != m.Ends[old[at]] {
			return false
		}
		for letter := range 3 {
			to := m.Next[3*old[at]+letter]
			number := -1
			if to >= 0 && leads(to) {
				number = slices.Index(old, to)
				if number < 0 {
					number = len(old)
					old = append(old, to)
				}
			}
			if x.Next[3*at+letter] != number {
				return false
			}
		}
	}
	return len(old) == x.States
}

// allApart reports whether each two states of a machine are told apart by a word of at most as many letters as states: pairs are marked in rounds, one for each letter.
func allApart(m impl.Machine) bool {
	many := m.States + 1 // the last one stands for -1
	apart := make([]bool, many*many)
	on := func(state int, letter int) int {
		if state == m.States || m.Next[3*state+letter] < 0 {
			return m.States
		}
		return m.Next[3*state+letter]
	}
	for a := range many {
		for b := range many {
			apart[a*many+b] = (a < m.States && m.Ends[a]) != (b < m.States && m.Ends[b])
		}
	}
	for range m.States {
		before := slices.Clone(apart)
		for a := range many {
			for b := range many {
				for letter := range 3 {
					if before[on(a, letter)*many+on(b, letter)] {
						apart[a*many+b] = true
					}
				}
			}
		}
	}
	for a := range m.States {
		for b := range a {
			if !apart[a*many+b] {
				return false
			}
		}
	}
	return true
}

// tuples returns all rows of states to which machines are led by the same word.
func tuples(machines ...impl.Machine) [][3]int {
	all := [][3]int{{}}
	come := map[[3]int]bool{{}: true}
	for at := 0; at < len(all); at++ {
		for letter := range 3 {
			var to [3]int
			for number, m := range machines {
				to[number] = onFrom(m, all[at][number], letter)
			}
			if !come[to] {
				come[to] = true
				all = append(all, to)
			}
		}
	}
	return all
}

// sameTaken reports whether two machines take the same words of all lengths, by walking both together.
func sameTaken(a impl.Machine, b impl.Machine) bool {
	for _, at := range tuples(a, b) {
		if isEnd(a, at[0]) != isEnd(b, at[1]) {
			return false
		}
	}
	return true
}

// isLeast reports whether a machine is trimmed, and has no states that take the same.
func isLeast(m impl.Machine) bool {
	return impl.MachineOk(m) && isTrimmedOf(m, m) && allApart(m)
}

// residuals returns how many rows of states to which two machines are led are told apart by the weights, other than 0, of all words of at most 150 letters that lead from them to ends: no machine for them has fewer states.
func residuals(a impl.Machine, b impl.Machine, ends func(a bool, b bool) bool) int {
	all := tuples(a, b)
	places := map[[3]int]int{}
	for place, at := range all {
		places[at] = place
	}
	weights := make([]uint64, len(all))
	for range 150 {
		longer := make([]uint64, len(all))
		for place, at := range all {
			if ends(isEnd(a, at[0]), isEnd(b, at[1])) {
				longer[place] = 1
			}
			for letter, times := range []uint64{0x9e3779b97f4a7c15, 0xbf58476d1ce4e5b9, 0x94d049bb133111eb} {
				to := [3]int{onFrom(a, at[0], letter), onFrom(b, at[1], letter)}
				longer[place] += times * weights[places[to]]
			}
		}
		weights = longer
	}
	slices.Sort(weights)
	weights = slices.Compact(weights)
	if weights[0] == 0 {
		return len(weights) - 1
	}
	return len(weights)
}

// shortestBy returns the first of the shortest words of at most so many letters that a machine takes, told by how many letters are left to an end.
func shortestBy(m impl.Machine, most int) (string, bool) {
	left := [][]bool{m.Ends}
	for many := range most {
		row := make([]bool, m.States)
		for state := range row {
			for letter := range 3 {
				to := m.Next[3*state+letter]
				row[state] = row[state] || to >= 0 && left[many][to]
			}
		}
		left = append(left, row)
	}
	for many := range left {
		if !left[many][0] {
			continue
		}
		word := ""
		for state := 0; len(word) < many; {
			for letter := range 3 {
				to := m.Next[3*state+letter]
				if to >= 0 && left[many-len(word)-1][to] {
					state = to
					word += letters[letter : letter+1]
					break
				}
			}
		}
		return word, true
	}
	return "", false
}
