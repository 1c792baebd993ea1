package tests

import (
	"strings"

	"loop.example/dutyrosters/impl"
)

// ringMachines returns machines for rings: those that are counted, and some that go round by one word alone.
func ringMachines() []impl.Machine {
	return append(countedMachines(),
		roundBy("rdn", 0), roundBy("ndr", 2), roundBy("rrd", 3), roundBy("rdrd", 1), roundBy("nnnnn", 40), roundBy("rrdnnd", 0), roundBy("dnr", 45),
	)
}

// roundBy returns a machine that goes round by a word alone, from a state behind so many others, to which no word leads and which stop by each letter.
func roundBy(word string, behind int) impl.Machine {
	m := made(strings.Repeat("0", behind+len(word)))
	for range 3 * m.States {
		m.Next = append(m.Next, -1)
	}
	for at := range len(word) {
		m.Next[3*(behind+at)+strings.Index(letters, word[at:at+1])] = behind + (at+1)%len(word)
	}
	return m
}

// longRings returns machines of which the words of MaxRing letters are tried one by one.
func longRings() []impl.Machine {
	d := &drawing{seed: 8}
	machines := append(longCounted(), roundBy("rrdnnd", 0), roundBy("rdnrdn", 6), roundBy("ddd", 45), cycle(6), cycle(48))
	for range 6 {
		machines = append(machines, d.drawnMachine(2+d.below(47), d.below(5), 4))
	}
	return machines
}

// ringBy returns the least state from which a word leads back to it, by goesTo; -1 if there is none, and for the empty word.
func ringBy(m impl.Machine, word string) int {
	if word == "" {
		return -1
	}
	least := -1
	for state := m.States - 1; state >= 0; state-- {
		if goesTo(m, state, word) == state {
			least = state
		}
	}
	return least
}

// rollsBy returns all rolls of a word, each of them the one before with its first letter put last, until the word comes again.
func rollsBy(word string) []string {
	rolls := []string{word}
	for roll := word; roll != ""; {
		roll = roll[1:] + roll[:1]
		if roll == word {
			break
		}
		rolls = append(rolls, roll)
	}
	return rolls
}

// leastBy returns the first one of words of the same length in the order r, d, n.
func leastBy(words []string) string {
	least := words[0]
	for _, word := range words[1:] {
		if wordOrder(word, least) < 0 {
			least = word
		}
	}
	return least
}

// walksBy returns how many pairs there are of a state and one of these words that leads back to it.
func walksBy(m impl.Machine, words []string) int {
	walks := 0
	for state := range m.States {
		for _, word := range words {
			if goesTo(m, state, word) == state {
				walks++
			}
		}
	}
	return walks
}

// walksForward returns how many pairs there are of a state and a word of just so many letters that leads back to it, told from each state by how many words lead to each other one.
func walksForward(m impl.Machine, many int) int {
	walks := 0
	for begin := range m.States {
		walks += ledFrom(m, begin, many)[begin]
	}
	return walks
}

// necklacesBy returns how many necklaces there are among these words, as sets of rolls, that are rings of a machine.
func necklacesBy(m impl.Machine, words []string) int {
	necklaces := 0
	known := map[string]bool{}
	for _, word := range words {
		if known[word] || ringBy(m, word) < 0 {
			continue
		}
		necklaces++
		for _, roll := range rollsBy(word) {
			known[roll] = true
		}
	}
	return necklaces
}

// badRings returns numbers of letters of which no rings are counted.
func badRings() []int {
	return []int{-1 << 63, -1<<63 + 1, -100, -6, -1, 0, 7, 8, 10, 14, 48, 1 << 62, 1<<63 - 1}
}
