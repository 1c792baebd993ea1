package tests

import (
	"slices"
	"strings"
	"testing"

	"loop.example/dutyrosters/impl"
)

func TestCountedBound(t *testing.T) {
	if impl.MaxCounted != 10 {
		t.Fatal(impl.MaxCounted)
	}
}

// TestP35 is for counts of words: with those that are not taken they are all words.
func TestP35(t *testing.T) {
	t.Parallel()
	for _, m := range someMachines() {
		least := impl.LeastMachine(m)
		not, ok := impl.NotMachine(m)
		for many := range impl.MaxCounted + 1 {
			count := impl.CountWords(m, many)
			if right := countForward(m, many); count != right {
				t.Fatalf("%v takes %d words of %d letters, not %d", m, right, many, count)
			}
			if of := impl.CountWords(least, many); of != count {
				t.Fatalf("%v, %d letters: %d, but %d of the least one", m, many, count, of)
			}
			if of := impl.CountWords(not, many); ok && of+count != powerOfThree(many) {
				t.Fatalf("%v, %d letters: %d, and %d not taken", m, many, count, of)
			}
		}
	}
}

// TestP35OneByOne is for words that are counted one by one.
func TestP35OneByOne(t *testing.T) {
	t.Parallel()
	for _, m := range countedMachines() {
		for many := range 5 {
			right := 0
			for _, word := range wordsOf(many) {
				if impl.TakesOk(m, word) {
					right++
				}
			}
			if count := impl.CountWords(m, many); count != right {
				t.Fatalf("%v takes %d words of %d letters, not %d", m, right, many, count)
			}
		}
	}
	for _, m := range longCounted() {
		for many := 5; many <= impl.MaxCounted; many++ {
			if count := impl.CountWords(m, many); count != len(takenWords(m, many)) {
				t.Fatalf("%v, %d letters: %d", m, many, count)
			}
		}
	}
}

func TestP35Examples(t *testing.T) {
	m, _ := impl.MachineOf(termIn("n*1&n/d"))
	runs, _ := impl.MachineOf(termIn("n^2"))
	for _, told := range []struct {
		m      impl.Machine
		counts []int
	}{
		{takesNone(), []int{0, 0, 0, 0, 0, 0, 0, 0, 0, 0, 0}},
		{made("0", 0, 0, 0), []int{0, 0, 0, 0, 0, 0, 0, 0, 0, 0, 0}},
		{made("01", -1, -1, -1, 1, 1, 1), []int{0, 0, 0, 0, 0, 0, 0, 0, 0, 0, 0}},
		{takesAll(), []int{1, 3, 9, 27, 81, 243, 729, 2187, 6561, 19683, 59049}},
		{takesEmpty(), []int{1, 0, 0, 0, 0, 0, 0, 0, 0, 0, 0}},
		{made("01", 1, 1, 1, 1, 1, 1), []int{0, 3, 9, 27, 81, 243, 729, 2187, 6561, 19683, 59049}},
		{cycle(4), []int{1, 0, 0, 0, 81, 0, 0, 0, 6561, 0, 0}},
		{chain(11), []int{0, 0, 0, 0, 0, 0, 0, 0, 0, 0, 1}},
		{chain(12), []int{0, 0, 0, 0, 0, 0, 0, 0, 0, 0, 0}},
		{m, []int{1, 3, 7, 17, 41, 99, 239, 577, 1393, 3363, 8119}},
		{runs, []int{1, 2, 5, 13, 33, 83}},
	} {
		for many, right := range told.counts {
			if count := impl.CountWords(told.m, many); count != right {
				t.Errorf("%v takes %d words of %d letters, not %d", told.m, right, many, count)
			}
		}
	}
}

func TestP35Others(t *testing.T) {
	for _, bad := range badMachines() {
		for _, many := range append(badNumbers(), 0, 1, 2, 10) {
			if count := impl.CountWords(bad, many); count != -1 {
				t.Errorf("%v, %d letters: %d", bad, many, count)
			}
		}
	}
	for _, m := range plainMachines() {
		for _, many := range badNumbers() {
			if count := impl.CountWords(m, many); count != -1 {
				t.Errorf("%v, %d letters: %d", m, many, count)
			}
		}
	}
}

// wrongPlaces says what is wrong with the places of all words of so many letters that a machine takes, or "".
func wrongPlaces(m impl.Machine, many int) string {
	words := takenWords(m, many)
	for at, word := range words {
		told, ok := impl.WordAt(m, many, at)
		if !ok || told != word || !impl.TakesOk(m, told) {
			return word + " is told as " + told
		}
		if impl.PlaceOf(m, word) != at {
			return "the place of " + word
		}
		next, ok := impl.NextWord(m, word)
		last := at == len(words)-1
		if ok == last || last && next != "" || !last && next != words[at+1] {
			return "behind " + word + " is " + next
		}
	}
	for _, at := range []int{-1 << 63, -1, len(words), len(words) + 1, powerOfThree(many), 1<<63 - 1} {
		if told, ok := impl.WordAt(m, many, at); ok || told != "" {
			return "at no place is " + told
		}
	}
	return ""
}

// TestP36P37 is for places that tell their words, and for words that have their places.
func TestP36P37(t *testing.T) {
	t.Parallel()
	for _, m := range countedMachines() {
		for many := range 6 {
			if wrong := wrongPlaces(m, many); wrong != "" {
				t.Fatalf("%v, %d letters: %s", m, many, wrong)
			}
		}
	}
}

// TestP36P37Long is for words of up to MaxCounted letters.
func TestP36P37Long(t *testing.T) {
	t.Parallel()
	for at, m := range longCounted() {
		for many := 6; many <= impl.MaxCounted; many++ {
			if at > 0 && many%2 == 1 {
				continue
			}
			if wrong := wrongPlaces(m, many); wrong != "" {
				t.Fatalf("%v, %d letters: %s", m, many, wrong)
			}
		}
	}
}

func TestP36Examples(t *testing.T) {
	rules, _ := impl.MachineOf(termIn("n*1&n/d"))
	for _, told := range []struct {
		m        impl.Machine
		many, at int
		word     string
		ok       bool
	}{
		{rules, 2, 0, "rr", true}, {rules, 2, 2, "rn", true}, {rules, 2, 5, "dn", true}, {rules, 2, 6, "nr", true}, {rules, 2, 7, "", false},
		{rules, 0, 0, "", true}, {rules, 0, 1, "", false}, {rules, 0, -1, "", false}, {rules, 10, 0, "rrrrrrrrrr", true},
		{rules, 10, 8118, "nrnrnrnrnr", true}, {rules, 10, 8119, "", false},
		{takesAll(), 10, 0, "rrrrrrrrrr", true}, {takesAll(), 10, 59048, "nnnnnnnnnn", true}, {takesAll(), 10, 59049, "", false},
		{takesAll(), 3, 5, "rdn", true}, {takesAll(), 3, 21, "ndr", true}, {takesAll(), 3, -1, "", false}, {takesAll(), 1, 1, "d", true},
		{takesNone(), 0, 0, "", false}, {takesNone(), 4, 0, "", false}, {made("0", 0, 0, 0), 4, 0, "", false}, {made("01", -1, -1, -1, 1, 1, 1), 1, 0, "", false},
		{takesEmpty(), 0, 0, "", true}, {takesEmpty(), 1, 0, "", false}, {made("01", 1, 1, 1, 1, 1, 1), 0, 0, "", false},
		{chain(11), 10, 0, "nnnnnnnnnn", true}, {chain(11), 10, 1, "", false}, {chain(12), 10, 0, "", false},
	} {
		if word, ok := impl.WordAt(told.m, told.many, told.at); ok != told.ok || word != told.word {
			t.Errorf("%v, %d letters, at %d: %q, %v", told.m, told.many, told.at, word, ok)
		}
	}
}

func TestP36Others(t *testing.T) {
	for _, bad := range badMachines() {
		for _, many := range append(badNumbers(), 0, 1, 10) {
			for at := -2; at < 3; at++ {
				if word, ok := impl.WordAt(bad, many, at); ok || word != "" {
					t.Errorf("%v, %d letters, at %d: %q, %v", bad, many, at, word, ok)
				}
			}
		}
	}
	for _, m := range []impl.Machine{takesAll(), takesNone(), takesEmpty(), cycle(2), chain(12), wheel(15), made("11", 1, 1, 1, 0, 0, 0)} {
		for _, many := range badNumbers() {
			for at := -2; at < 3; at++ {
				if word, ok := impl.WordAt(m, many, at); ok || word != "" {
					t.Errorf("%v, %d letters, at %d: %q, %v", m, many, at, word, ok)
				}
			}
		}
	}
}

// TestP37 is for words of at most 5 letters, taken or not.
func TestP37(t *testing.T) {
	t.Parallel()
	for _, m := range countedMachines() {
		for many := range 6 {
			before := 0
			for _, word := range wordsOf(many) {
				right := -1
				if takes(m, word) {
					right = before
					before++
				}
				at := impl.PlaceOf(m, word)
				if at != right || at >= impl.CountWords(m, many) {
					t.Fatalf("%v, %q has the place %d, not %d", m, word, right, at)
				}
				if told, ok := impl.WordAt(m, many, at); ok != (right >= 0) || ok && told != word {
					t.Fatalf("%v, %q has the place %d, but %q, %v", m, word, at, told, ok)
				}
			}
		}
	}
}

func TestP37Examples(t *testing.T) {
	rules, _ := impl.MachineOf(termIn("n*1&n/d"))
	for _, told := range []struct {
		m    impl.Machine
		word string
		at   int
	}{
		{rules, "", 0}, {rules, "rr", 0}, {rules, "dn", 5}, {rules, "nr", 6}, {rules, "nd", -1}, {rules, "nn", -1}, {rules, "ndr", -1}, {rules, "nrnrnrnrnr", 8118},
		{takesAll(), "", 0}, {takesAll(), "n", 2}, {takesAll(), "rdn", 5}, {takesAll(), "ndr", 21}, {takesAll(), "nnnnnnnnnn", 59048}, {takesAll(), "rrrrrrrrrn", 2},
		{takesNone(), "", -1}, {takesNone(), "r", -1}, {made("0", 0, 0, 0), "rdn", -1}, {takesEmpty(), "", 0}, {takesEmpty(), "r", -1},
		{made("01", 1, 1, 1, 1, 1, 1), "", -1}, {made("01", 1, 1, 1, 1, 1, 1), "r", 0}, {chain(11), "nnnnnnnnnn", 0}, {chain(11), "nnnnnnnnn", -1},
	} {
		if at := impl.PlaceOf(told.m, told.word); at != told.at {
			t.Errorf("%v, %q has the place %d, not %d", told.m, told.word, told.at, at)
		}
	}
}

// TestP37Others is for what is no machine, no word, or a word of more than MaxCounted letters, which is taken all the same.
func TestP37Others(t *testing.T) {
	for _, bad := range badMachines() {
		for _, word := range append(badWords(), "", "r", "d", "n", "rdn") {
			if at := impl.PlaceOf(bad, word); at != -1 {
				t.Errorf("%v, %q has the place %d", bad, word, at)
			}
		}
	}
	words := badWords()
	for many := 11; many <= impl.MaxWord; many++ {
		words = append(words, strings.Repeat("r", many), strings.Repeat("n", many))
	}
	for _, m := range []impl.Machine{takesAll(), takesNone(), made("11", 1, 1, 1, 0, 0, 0), chain(12), chain(15), wheel(12)} {
		for _, word := range words {
			if at := impl.PlaceOf(m, word); at != -1 {
				t.Errorf("%v, %q has the place %d", m, word, at)
			}
		}
	}
}

// wrongLetters says what is wrong with the letters behind a word, of so many in all, of which these are taken, or "".
func wrongLetters(m impl.Machine, word string, many int, taken []string) string {
	after := impl.LettersAfter(m, word, many)
	if len(word) >= many && after != "" || len(word) < many && after != lettersBy(taken, word) {
		return "the letters " + after
	}
	if after == "" {
		return ""
	}
	for rest := after; rest != ""; rest = impl.LettersAfter(m, word, many) {
		word += rest[:1]
	}
	if len(word) != many || !impl.TakesOk(m, word) {
		return "on to " + word
	}
	return ""
}

// TestP38 is for all words of at most 5 letters, and for those of at most 4 letters in all.
func TestP38(t *testing.T) {
	t.Parallel()
	words := wordsUpTo(5)
	for _, m := range countedMachines() {
		for many := range 5 {
			taken := takenWords(m, many)
			for _, word := range words {
				if wrong := wrongLetters(m, word, many, taken); wrong != "" {
					t.Fatalf("%v, %q, %d letters: %s", m, word, many, wrong)
				}
			}
		}
	}
}

// TestP38Long is for up to MaxCounted letters in all, and for words of up to MaxWord.
func TestP38Long(t *testing.T) {
	t.Parallel()
	for _, m := range longCounted() {
		for _, many := range []int{7, impl.MaxCounted} {
			taken := takenWords(m, many)
			words := slices.Concat(wordsUpTo(2), longWords())
			for at := 0; at < len(taken); at += 1 + len(taken)/20 {
				words = append(words, taken[at], taken[at][:many-1], taken[at][:many-3])
			}
			for _, word := range words {
				if wrong := wrongLetters(m, word, many, taken); wrong != "" {
					t.Fatalf("%v, %q, %d letters: %s", m, word, many, wrong)
				}
			}
		}
	}
}

func TestP38Examples(t *testing.T) {
	rules, _ := impl.MachineOf(termIn("n*1&n/d"))
	runs, _ := impl.MachineOf(termIn("n^2"))
	for _, told := range []struct {
		m     impl.Machine
		word  string
		many  int
		after string
	}{
		{rules, "", 2, "rdn"}, {rules, "n", 2, "r"}, {rules, "n", 1, ""}, {rules, "n", 0, ""}, {rules, "nd", 3, ""}, {rules, "r", 10, "rdn"},
		{runs, "r", 2, "rd"}, {runs, "r", 3, "rdn"}, {runs, "n", 2, "n"}, {runs, "nn", 3, "rdn"}, {runs, "", 1, "rd"}, {runs, "nr", 3, ""},
		{takesAll(), "", 0, ""}, {takesAll(), "", 1, "rdn"}, {takesAll(), "rrrrrrrrr", 10, "rdn"}, {takesAll(), "rrrrrrrrrr", 10, ""},
		{takesAll(), "rrrrrrrrrrrrrr", 10, ""}, {takesNone(), "", 3, ""}, {made("0", 0, 0, 0), "r", 3, ""}, {made("01", -1, -1, -1, 1, 1, 1), "", 3, ""},
		{takesEmpty(), "", 0, ""}, {takesEmpty(), "", 1, ""}, {takesEmpty(), "r", 3, ""},
		{chain(11), "", 10, "n"}, {chain(11), "", 9, ""}, {chain(11), "r", 10, ""}, {chain(11), "nnnnnnnnn", 10, "n"},
	} {
		if after := impl.LettersAfter(told.m, told.word, told.many); after != told.after {
			t.Errorf("%v, %q, %d letters: %q", told.m, told.word, told.many, after)
		}
	}
}

func TestP38Others(t *testing.T) {
	for _, bad := range badMachines() {
		for _, many := range append(badNumbers(), 0, 1, 2, 10) {
			for _, word := range []string{"", "r", "n", "x", "rdn"} {
				if after := impl.LettersAfter(bad, word, many); after != "" {
					t.Errorf("%v, %q, %d letters: %q", bad, word, many, after)
				}
			}
		}
	}
	for _, m := range []impl.Machine{takesAll(), takesNone(), takesEmpty(), made("11", 1, 1, 1, 0, 0, 0), chain(12), cycle(3)} {
		for _, many := range badNumbers() {
			for _, word := range []string{"", "r", "n", "rdn", "nnnnnnnnnn", "nnnnnnnnnnn"} {
				if after := impl.LettersAfter(m, word, many); after != "" {
					t.Errorf("%v, %q, %d letters: %q", m, word, many, after)
				}
			}
		}
		for _, word := range badWords() {
			for many := range impl.MaxCounted + 1 {
				if after := impl.LettersAfter(m, word, many); after != "" {
					t.Errorf("%v, %q, %d letters: %q", m, word, many, after)
				}
			}
		}
	}
}

// wrongNext says what is wrong with the word behind one, where these words with as many letters are taken, or "".
func wrongNext(m impl.Machine, word string, taken []string) string {
	behind, found := slices.BinarySearchFunc(taken, word, wordOrder)
	before := behind
	if found {
		behind++
	}
	next, ok := impl.NextWord(m, word)
	if ok != (behind < len(taken)) || !ok && next != "" || ok && next != taken[behind] {
		return "next is " + next
	}
	if !ok {
		return ""
	}
	if !impl.TakesOk(m, next) || len(next) != len(word) || wordOrder(next, word) <= 0 {
		return "next is no taken word behind it: " + next
	}
	right := before
	if at := impl.PlaceOf(m, word); at >= 0 {
		right = at + 1
	}
	if impl.PlaceOf(m, next) != right {
		return "the place of " + next
	}
	return ""
}

// TestP39 is for the words behind all words of at most 5 letters, taken or not.
func TestP39(t *testing.T) {
	t.Parallel()
	for _, m := range countedMachines() {
		for many := range 6 {
			taken := takenWords(m, many)
			for _, word := range wordsOf(many) {
				if wrong := wrongNext(m, word, taken); wrong != "" {
					t.Fatalf("%v, %q: %s", m, word, wrong)
				}
			}
		}
	}
}

// TestP39Long is for words of up to MaxCounted letters.
func TestP39Long(t *testing.T) {
	t.Parallel()
	for _, m := range longCounted() {
		for _, many := range []int{8, impl.MaxCounted} {
			taken := takenWords(m, many)
			words := wordsOf(many)
			for at := 0; at < len(words); at += 1 + len(words)/500 {
				if wrong := wrongNext(m, words[at], taken); wrong != "" {
					t.Fatalf("%v, %q: %s", m, words[at], wrong)
				}
			}
		}
	}
}

func TestP39Examples(t *testing.T) {
	rules, _ := impl.MachineOf(termIn("n*1&n/d"))
	for _, told := range []struct {
		m          impl.Machine
		word, next string
		ok         bool
	}{
		{rules, "dn", "nr", true}, {rules, "nr", "", false}, {rules, "rrn", "rdr", true}, {rules, "nd", "", false}, {rules, "rnn", "drr", true},
		{rules, "rnd", "drr", true}, {rules, "nnn", "", false}, {rules, "", "", false}, {rules, "r", "d", true}, {rules, "n", "", false},
		{takesAll(), "", "", false}, {takesAll(), "rnn", "drr", true}, {takesAll(), "nnn", "", false}, {takesAll(), "rrrrrrrrrr", "rrrrrrrrrd", true},
		{takesAll(), "rnnnnnnnnn", "drrrrrrrrr", true}, {takesAll(), "nnnnnnnnnn", "", false},
		{takesNone(), "", "", false}, {takesNone(), "rr", "", false}, {made("0", 0, 0, 0), "rr", "", false}, {made("01", -1, -1, -1, 1, 1, 1), "r", "", false},
		{takesEmpty(), "", "", false}, {takesEmpty(), "r", "", false}, {made("01", 1, 1, 1, 1, 1, 1), "", "", false},
		{chain(4), "rrr", "nnn", true}, {chain(4), "nnd", "nnn", true}, {chain(4), "nnn", "", false}, {chain(4), "rr", "", false}, {chain(11), "dddddddddd", "nnnnnnnnnn", true},
	} {
		if next, ok := impl.NextWord(told.m, told.word); ok != told.ok || next != told.next {
			t.Errorf("%v, behind %q: %q, %v", told.m, told.word, next, ok)
		}
	}
}

func TestP39Others(t *testing.T) {
	for _, bad := range badMachines() {
		for _, word := range append(badWords(), "", "r", "d", "n", "rdn") {
			if next, ok := impl.NextWord(bad, word); ok || next != "" {
				t.Errorf("%v, behind %q: %q, %v", bad, word, next, ok)
			}
		}
	}
	words := badWords()
	for many := 11; many <= impl.MaxWord; many++ {
		words = append(words, strings.Repeat("r", many), strings.Repeat("d", many))
	}
	for _, m := range []impl.Machine{takesAll(), takesNone(), made("11", 1, 1, 1, 0, 0, 0), chain(12), chain(15), wheel(12)} {
		for _, word := range words {
			if next, ok := impl.NextWord(m, word); ok || next != "" {
				t.Errorf("%v, behind %q: %q, %v", m, word, next, ok)
			}
		}
	}
}

// TestP40 is for the words of either of two machines, and of both.
func TestP40(t *testing.T) {
	t.Parallel()
	large := slices.Concat(drawnMachines(20, 20), plainMachines())
	for _, machines := range [][]impl.Machine{fewMachines(), large} {
		for _, a := range machines {
			for _, b := range machines {
				either, eitherOk := impl.EitherMachine(a, b)
				both, bothOk := impl.BothMachines(a, b)
				if !eitherOk || !bothOk {
					continue
				}
				for many := range impl.MaxCounted + 1 {
					each := impl.CountWords(a, many) + impl.CountWords(b, many)
					if impl.CountWords(either, many) != each-impl.CountWords(both, many) {
						t.Fatalf("%v and %v, %d letters", a, b, many)
					}
				}
			}
		}
	}
}

func TestP40Examples(t *testing.T) {
	all := impl.CountWords(takesAll(), 7)
	for _, m := range countedMachines() {
		many := impl.CountWords(m, 7)
		for _, told := range []struct {
			k            impl.Machine
			either, both int
		}{{takesNone(), many, 0}, {takesAll(), all, many}, {m, many, many}} {
			either, _ := impl.EitherMachine(m, told.k)
			both, _ := impl.BothMachines(m, told.k)
			if impl.CountWords(either, 7) != told.either || impl.CountWords(both, 7) != told.both {
				t.Errorf("%v and %v", m, told.k)
			}
		}
	}
}

// TestCountsChangeNothing is for machines, which are not written to.
func TestCountsChangeNothing(t *testing.T) {
	for _, m := range countedMachines() {
		before := cloned(m)
		impl.CountWords(m, 10)
		impl.WordAt(m, 5, 0)
		impl.PlaceOf(m, "rdn")
		impl.LettersAfter(m, "rd", 6)
		impl.NextWord(m, "rdn")
		if !equalMachines(m, before) {
			t.Fatalf("%v is written to", before)
		}
	}
}
