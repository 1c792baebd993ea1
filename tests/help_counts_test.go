package tests

import (
	"slices"
	"strings"

	"loop.example/dutyrosters/impl"
)

// takenWords returns all words of just so many letters that a machine takes, in the order r, d, n, by walking all that do not stop it.
func takenWords(m impl.Machine, many int) []string {
	var words []string
	var walk func(state int, word string)
	walk = func(state int, word string) {
		if state < 0 {
			return
		}
		if len(word) < many {
			for letter := range 3 {
				walk(onFrom(m, state, letter), word+letters[letter:letter+1])
			}
			return
		}
		if m.Ends[state] {
			words = append(words, word)
		}
	}
	walk(0, "")
	return words
}

// ledFrom returns how many words of just so many letters lead a machine from a state to each state.
func ledFrom(m impl.Machine, begin int, many int) []int {
	leading := make([]int, m.States)
	leading[begin] = 1
	for range many {
		longer := make([]int, m.States)
		for at, to := range m.Next {
			if to >= 0 {
				longer[to] += leading[at/3]
			}
		}
		leading = longer
	}
	return leading
}

// countForward returns how many words of just so many letters a machine takes, told from the begin: by how many words lead to each state.
func countForward(m impl.Machine, many int) int {
	leading := ledFrom(m, 0, many)
	taken := 0
	for state, end := range m.Ends {
		if end {
			taken += leading[state]
		}
	}
	return taken
}

// powerOfThree returns how many words of so many letters there are.
func powerOfThree(many int) int {
	power := 1
	for range many {
		power *= 3
	}
	return power
}

// wordOrder compares two words of the same length by their first letters that differ, r, d, n.
func wordOrder(a string, b string) int {
	for at := range len(a) {
		if differ := strings.IndexByte(letters, a[at]) - strings.IndexByte(letters, b[at]); differ != 0 {
			return differ
		}
	}
	return 0
}

// lettersBy returns the letters behind which a word, of at most as many letters, begins one of these.
func lettersBy(words []string, word string) string {
	after := ""
	for _, letter := range eachLetter() {
		begins := func(longer string) bool { return strings.HasPrefix(longer, word+letter) }
		if slices.ContainsFunc(words, begins) {
			after += letter
		}
	}
	return after
}

// badNumbers returns numbers of letters that are not counted.
func badNumbers() []int {
	return []int{-1 << 63, -1<<63 + 1, -100, -2, -1, 11, 12, 14, 15, 48, 1 << 62, 1<<63 - 1}
}

// countedMachines returns machines for counts: plain ones, some tiny ones, drawn ones of all sizes, and those of terms.
func countedMachines() []impl.Machine {
	machines := slices.Concat(plainMachines(), drawnMachines(60, 6), drawnMachines(30, 48))
	for at, m := range tinyMachines() {
		if at%29 == 3 {
			machines = append(machines, m)
		}
	}
	for _, text := range []string{"n*1&n/d", "n*2", "r^3", "n<2&d>1", "!n/d|r>4", "r<0&r>1", "r>5&d>5"} {
		m, _ := impl.MachineOf(termIn(text))
		machines = append(machines, m)
	}
	return machines
}

// longCounted returns machines of which the words of MaxCounted letters are tried one by one.
func longCounted() []impl.Machine {
	machines := []impl.Machine{
		takesAll(), takesNone(), takesEmpty(), made("01", -1, -1, -1, 1, 1, 1), chain(11), chain(12), cycle(5), wheel(11), wheel(12),
		made("01", 1, 1, 1, 1, 1, 1), made("11", 0, 0, 1, 0, -1, -1), made("0110", 2, 1, -1, 3, -1, 3, 3, -1, 3, -1, -1, -1),
	}
	d := &drawing{seed: 6}
	for range 8 {
		machines = append(machines, d.drawnMachine(2+d.below(20), 1, 4))
	}
	return machines
}
