package tests

import (
	"slices"
	"strings"
	"testing"

	"loop.example/dutyrosters/impl"
)

// drawnTerms returns terms of each shape, of all rules and of near ones.
func drawnTerms() [][]impl.Mark {
	d := &drawing{seed: 5}
	terms := slices.Concat(termsOfOneRule(), termShapes(), keptByNone(), keptByAll(), largeTerms())
	for _, shape := range termShapes() {
		terms = append(terms, d.drawnTerm(shape, allRules()), d.drawnTerm(shape, nearRules()))
	}
	return terms
}

// TestP29 is for what is kept, and taken by the machine of the term.
func TestP29(t *testing.T) {
	t.Parallel()
	words := append(wordsUpTo(4), longWords()...)
	for _, term := range drawnTerms() {
		m, has := impl.MachineOf(term)
		not := joinedRows(term, []impl.Mark{notMark})
		kept := meaningOf(term, 0)
		for _, word := range words {
			keeps := impl.KeepsTerm(term, word)
			if right := kept(func(place int) bool { return keepsBy(term[place].Its, word) }); keeps != right {
				t.Fatalf("%q keeps %q: %v", word, impl.TermText(term), keeps)
			}
			if has && impl.TakesOk(m, word) != keeps {
				t.Fatalf("%q keeps %q: %v, but %v", word, impl.TermText(term), keeps, m)
			}
			if impl.TermOk(not) && impl.KeepsTerm(not, word) == keeps {
				t.Fatalf("%q keeps %q: %v, and not of it", word, impl.TermText(term), keeps)
			}
		}
	}
}

func TestP29Examples(t *testing.T) {
	for _, told := range []struct{ text, kept, never string }{
		{"n*2&n/d", " nnrn nn dn nrd", "nnn nd nnrnd nnnrnd"},
		{"n*2|n/d", " nnn nd nnrnd", "nnnd ndnnn nnnrnd"},
		{"!n*2", "nnn rnnnr", " nn nnrnn"},
		{"!!n*2", " nn nnrnn", "nnn rnnnr"},
		{"r>2", "rr rdr", " r d"},
		{"!r>2", " r d", "rr rdr"},
		{"n*2|n/d&r>2", " nn nd rnnnr rr", "nnnd rnnndr nnn"},
		{"(n*2|n/d)&r>2", "rr rnnrn rrnd rnnnr", " nn nnnd rnnndr"},
		{"!(n*2&n/d)", "nnn nd rnnnd", " nn dn rnnr"},
		{"!n*2&n/d", "nnn rnnn", " nn nd nnnd"},
		{"!(n*2|n/d)", "nnnd ndnnn", " nnn nd nn"},
		{"r<0&r>1", "", " r d n rr"},
		{"r<0|r>1", " r d n rr", ""},
	} {
		read := termIn(told.text)
		for _, word := range strings.Split(told.kept, " ") {
			if told.kept != "" && !impl.KeepsTerm(read, word) {
				t.Errorf("%q keeps %q", word, told.text)
			}
		}
		for _, word := range strings.Split(told.never, " ") {
			if told.never != "" && impl.KeepsTerm(read, word) {
				t.Errorf("%q does not keep %q", word, told.text)
			}
		}
	}
}

// TestP29EmptyWord is for the empty word, which keeps all rules but those of at least so many.
func TestP29EmptyWord(t *testing.T) {
	t.Parallel()
	for _, term := range drawnTerms() {
		right := meaningOf(term, 0)(func(place int) bool { return term[place].Its.Kind != impl.RuleAtLeast })
		if impl.KeepsTerm(term, "") != right {
			t.Errorf("the empty word and %q", impl.TermText(term))
		}
		if m, ok := impl.MachineOf(term); ok && m.Ends[0] != right {
			t.Errorf("the empty word and %q: %v", impl.TermText(term), m)
		}
	}
}

// TestP29Others is for what is no term, or no word: neither is kept, nor not of it.
func TestP29Others(t *testing.T) {
	for _, bad := range badTerms() {
		for _, word := range []string{"", "r", "rdn", "nnnnnnnnnnnnnn", "x"} {
			if impl.KeepsTerm(bad, word) {
				t.Errorf("%q keeps %v, which is no term", word, bad)
			}
		}
	}
	for _, word := range badWords() {
		for _, text := range []string{"n*2", "!n*2", "!!n*2", "n*2|!n*2", "n*2&n/d", "!(n*2&n/d)", "!(n*2|n/d)"} {
			if impl.KeepsTerm(termIn(text), word) {
				t.Errorf("%q, which is no word, keeps %q", word, text)
			}
		}
	}
}

// wrongMachine says what is wrong with the machine of a term, or "".
func wrongMachine(term []impl.Mark) string {
	m, ok := impl.MachineOf(term)
	if ok != hasMachineBy(term) {
		return "whether there is one"
	}
	if !ok {
		if !isNothing(m) {
			return "a machine beside false"
		}
		return ""
	}
	if !isLeast(m) || !equalMachines(m, impl.LeastMachine(m)) {
		return "not least"
	}
	if !sameTaken(m, wholeOf(term)) {
		return "takes others"
	}
	return ""
}

// TestP30 is for the machines of terms: they are least, take just what keeps the term, of all lengths, and lack just where a part has too many states.
func TestP30(t *testing.T) {
	t.Parallel()
	for _, term := range drawnTerms() {
		if wrong := wrongMachine(term); wrong != "" {
			m, ok := impl.MachineOf(term)
			t.Fatalf("%q: %s: %v, %v", impl.TermText(term), wrong, m, ok)
		}
	}
}

func TestP30Words(t *testing.T) {
	texts := longTexts()
	for _, term := range nearTerms(1, 7) {
		m, ok := impl.MachineOf(term)
		if !ok {
			t.Fatalf("%q has a machine", impl.TermText(term))
		}
		for _, text := range texts {
			if takes(m, text) != keepsTermBy(term, text) {
				t.Fatalf("%q, %q: %v", impl.TermText(term), text, m)
			}
			if word := text[:min(len(text), impl.MaxWord)]; impl.TakesOk(m, word) != impl.KeepsTerm(term, word) {
				t.Fatalf("%q, %q: %v", impl.TermText(term), word, m)
			}
		}
	}
}

func TestP30Examples(t *testing.T) {
	for _, told := range []struct {
		text string
		m    impl.Machine
	}{
		{"n*1", made("11", 0, 0, 1, 0, 0, -1)}, {"n/n", made("11", 0, 0, 1, 0, 0, -1)}, {"r>1", made("01", 1, 0, 0, 1, 1, 1)},
		{"!r>1", made("1", -1, 0, 0)}, {"!n*0", made("01", 0, 0, 1, 1, 1, 1)}, {"!!n*0", made("1", 0, 0, -1)}, {"!d<0", made("01", 0, 1, 0, 1, 1, 1)},
		{"n*1&n/d", made("11", 0, 0, 1, 0, -1, -1)}, {"n*2&n/d", made("111", 0, 0, 1, 0, -1, 2, 0, -1, -1)}, {"r<0&d<0", made("1", -1, -1, 0)},
		{"r<0&d<0&n<0", takesEmpty()}, {"!(r>1|d>1|n>1)", takesEmpty()}, {"!(r<0&d<0&n<0)", made("01", 1, 1, 1, 1, 1, 1)},
		{"r<0|d<0", made("111", 1, 2, 0, 1, -1, 1, -1, 2, 2)},
	} {
		if m, ok := impl.MachineOf(termIn(told.text)); !ok || !equalMachines(m, told.m) {
			t.Errorf("%q: %v, %v", told.text, m, ok)
		}
	}
}

// TestP30NoneAndAll is for terms that no word keeps, and for those that all words keep.
func TestP30NoneAndAll(t *testing.T) {
	for _, term := range keptByNone() {
		if m, ok := impl.MachineOf(term); !ok || !equalMachines(m, takesNone()) {
			t.Errorf("%q: %v, %v", impl.TermText(term), m, ok)
		}
	}
	for _, term := range keptByAll() {
		if m, ok := impl.MachineOf(term); !ok || !equalMachines(m, takesAll()) {
			t.Errorf("%q: %v, %v", impl.TermText(term), m, ok)
		}
	}
}

// TestP30TooMany is for terms with a part that has more than MaxStates states, or just as many.
func TestP30TooMany(t *testing.T) {
	for text, states := range map[string]int{
		"r>5&d>5": 36, "r<5&d<5": 36, "!(r<5&d<5)": 37, "r>5&d>3&n>1": 48, "!(r>5&d>3&n>1)": 47, "r<5&d<3&n<1": 48,
		"!d<5&!(!!n<1|d*2)": 48, "r*4&!(n*4&n>4)&r<2": 48, "r<0&r>5&d>5&n>5": 1, "r>5|d>5|(r<5|n>5)": 1,
	} {
		if m, ok := impl.MachineOf(termIn(text)); !ok || m.States != states {
			t.Errorf("%q: %v, %v", text, m, ok)
		}
	}
	for _, term := range largeTerms() {
		if m, ok := impl.MachineOf(term); ok || !isNothing(m) {
			t.Errorf("%q: %v, %v", impl.TermText(term), m, ok)
		}
	}
}

func TestP30Others(t *testing.T) {
	for _, bad := range badTerms() {
		if m, ok := impl.MachineOf(bad); ok || !isNothing(m) {
			t.Errorf("%v, which is no term: %v, %v", bad, m, ok)
		}
	}
}

func TestP30NewMemory(t *testing.T) {
	t.Parallel()
	for at, term := range drawnTerms() {
		if at%4 > 0 {
			continue
		}
		before := slices.Clone(term)
		first, _ := impl.MachineOf(term)
		second, _ := impl.MachineOf(term)
		right := cloned(second)
		spoiled(first)
		third, _ := impl.MachineOf(term)
		if !equalMachines(second, right) || !equalMachines(third, right) || !slices.Equal(term, before) {
			t.Fatalf("%q shares memory", impl.TermText(before))
		}
	}
}

// termPairs calls with all pairs of terms of one rule, all pairs of near terms and of terms that no word, or all words, keep, and with pairs of drawn terms.
func termPairs(call func(first []impl.Mark, second []impl.Mark)) {
	near := slices.Concat(nearTerms(1, 5), keptByNone()[:3], keptByAll()[:3], termsIn("r<0&d<0&n<0", "r>1|d>1|n>1"))
	for _, terms := range [][][]impl.Mark{termsOfOneRule(), near} {
		for _, first := range terms {
			for _, second := range terms {
				call(first, second)
			}
		}
	}
	drawn := drawnTerms()
	for at := 0; at < len(drawn); at += 4 {
		call(drawn[at], drawn[(7*at+3)%len(drawn)])
		call(drawn[at], drawn[at])
	}
}

// TestP31 is for terms that are kept by the same words.
func TestP31(t *testing.T) {
	t.Parallel()
	termPairs(func(first []impl.Mark, second []impl.Mark) {
		m, firstOk := impl.MachineOf(first)
		k, secondOk := impl.MachineOf(second)
		same := impl.SameTerms(first, second)
		if right := firstOk && secondOk && sameTaken(m, k); same != right {
			t.Fatalf("%q and %q are the same: %v", impl.TermText(first), impl.TermText(second), same)
		}
		if impl.SameTerms(second, first) != same {
			t.Fatalf("%q and %q, exchanged", impl.TermText(first), impl.TermText(second))
		}
		if _, ok := impl.BothMachines(m, k); ok {
			if impl.ImpliesTerm(first, second) && impl.ImpliesTerm(second, first) != same {
				t.Fatalf("%q and %q imply each other, but are the same: %v", impl.TermText(first), impl.TermText(second), same)
			}
		}
		word, differ := impl.WitnessOf(first, second)
		if same && differ {
			t.Fatalf("%q and %q are the same, but for %q", impl.TermText(first), impl.TermText(second), word)
		}
		if firstOk && secondOk && m.States+k.States <= impl.MaxWord && same == differ {
			t.Fatalf("%q and %q are not the same, but for no word", impl.TermText(first), impl.TermText(second))
		}
	})
}

// TestP31Words is for terms that are told to be the same, and for texts of any length.
func TestP31Words(t *testing.T) {
	t.Parallel()
	texts := append(wordsUpTo(6), longTexts()...)
	terms := append(termsOfOneRule(), nearTerms(2, 5)...)
	kept := make([]string, len(terms))
	for at, term := range terms {
		for _, text := range texts {
			if keepsTermBy(term, text) {
				kept[at] += "1"
			} else {
				kept[at] += "0"
			}
		}
	}
	for at, first := range terms {
		for other, second := range terms {
			if same := impl.SameTerms(first, second); same != (kept[at] == kept[other]) {
				t.Fatalf("%q and %q are the same: %v", impl.TermText(first), impl.TermText(second), same)
			}
		}
	}
}

func TestP31Examples(t *testing.T) {
	for _, told := range [][2]string{
		{"n*2&n/d", "n/d&n*2"}, {"n*1", "n/n"}, {"n*0", "n<0"}, {"!r>1", "r*0"}, {"n*2", "!!n*2"}, {"!r<3", "r>4"}, {"!r>3", "r<2"}, {"n*1&n*3", "n*1"},
		{"n*1|n*3", "n*3"}, {"n^2|n^3", "n^2"}, {"r<0&r>1", "n*0&!n*0"}, {"r<0|r>1", "d*1|!d*1"}, {"!(n*2|n/d)", "!n*2&!n/d"}, {"n^2&n/n", "n<0"},
	} {
		if first, second := termIn(told[0]), termIn(told[1]); !impl.SameTerms(first, second) || !impl.SameTerms(second, first) {
			t.Errorf("%q and %q are the same", told[0], told[1])
		}
	}
	// The last ones are different but for words of more than MaxWord letters alone.
	for _, told := range [][2]string{
		{"n*2", "n*3"}, {"n*2", "d*2"}, {"n/d", "d/n"}, {"n*2", "!n*2"}, {"r>1", "r>1|n*0"}, {"r<0&r>1", "r<0&d<0&n<0"}, {"r<0|r>1", "r>1|d>1|n>1"}, {"n*2&n/d", "n*2|n/d"},
		{"r>4&r/r&d^4&n<0", "r<0&r>1"}, {"n/d&(r^4&!d<5)&d*1", "r<0&r>1"}, {"r/d&(n^4&d*2&!d<5)", "r<0&(n^4&d*2&!d<5)"},
	} {
		if first, second := termIn(told[0]), termIn(told[1]); impl.SameTerms(first, second) || impl.SameTerms(second, first) {
			t.Errorf("%q and %q are not the same", told[0], told[1])
		}
	}
}

// othersThanTerms calls with terms and what is no term, or has no machine, in each order, and with these beside themselves.
func othersThanTerms(call func(first []impl.Mark, second []impl.Mark)) {
	for _, other := range append(badTerms(), largeTerms()...) {
		call(other, other)
		call(other, nil)
		for _, text := range []string{"n*2", "!n*2", "r<0&r>1", "r<0|r>1", "r>1"} {
			call(termIn(text), other)
			call(other, termIn(text))
		}
	}
}

func TestP31Others(t *testing.T) {
	othersThanTerms(func(first []impl.Mark, second []impl.Mark) {
		if impl.SameTerms(first, second) {
			t.Errorf("%v and %v are the same", first, second)
		}
	})
}

// impliesBy reports whether each word that one machine takes is taken by another one.
func impliesBy(m impl.Machine, k impl.Machine) bool {
	return !slices.Contains(pairOf(m, k, onlyFirst).Ends, true)
}

// TestP32 is for what is implied, and kept.
func TestP32(t *testing.T) {
	t.Parallel()
	words := append(wordsUpTo(3), longWords()[:40]...)
	termPairs(func(first []impl.Mark, second []impl.Mark) {
		m, firstOk := impl.MachineOf(first)
		k, secondOk := impl.MachineOf(second)
		implies := impl.ImpliesTerm(first, second)
		if right := firstOk && secondOk && impliesBy(m, k); implies != right {
			t.Fatalf("%q implies %q: %v", impl.TermText(first), impl.TermText(second), implies)
		}
		if !implies {
			return
		}
		for _, word := range words {
			if impl.KeepsTerm(first, word) && !impl.KeepsTerm(second, word) {
				t.Fatalf("%q implies %q, but %q", impl.TermText(first), impl.TermText(second), word)
			}
		}
	})
}

// TestP32Either is for terms that imply themselves, and either of both.
func TestP32Either(t *testing.T) {
	t.Parallel()
	rules := allRules()
	for at, first := range drawnTerms() {
		if at%3 > 0 {
			continue
		}
		_, has := impl.MachineOf(first)
		if impl.ImpliesTerm(first, first) != has {
			t.Fatalf("%q implies itself: %v", impl.TermText(first), !has)
		}
		second := isRule(rules[at%len(rules)])
		for _, either := range [][]impl.Mark{
			joinedRows(first, []impl.Mark{second, eitherMark}), joinedRows([]impl.Mark{second}, first, []impl.Mark{eitherMark}),
		} {
			_, eitherHas := impl.MachineOf(either)
			if impl.ImpliesTerm(first, either) != (has && eitherHas) {
				t.Fatalf("%q implies either, %q: %v", impl.TermText(first), impl.TermText(either), eitherHas)
			}
		}
	}
}

func TestP32Examples(t *testing.T) {
	for _, told := range []struct {
		first, second string
		there, back   bool
	}{
		{"n*2&n/d", "n*3", true, false}, {"n*1", "n*2", true, false}, {"n*1", "n/n", true, true}, {"n^3", "n^2", true, false}, {"r>3", "r>2", true, false},
		{"r<2", "r<3", true, false}, {"n*0", "n/d", true, false}, {"n*0", "n^4", true, false}, {"n*2", "r*2", false, false}, {"n*2", "!n*2", false, false},
		{"r<0&r>1", "n*2", true, false}, {"r<0&r>1", "n*0&!n*0", true, true}, {"n*2", "r<0|r>1", true, false}, {"r<0&r>1", "r<0|r>1", true, false}, {"r<0|r>1", "n*4|!n*4", true, true},
		{"n*2&n/d", "n/d", true, false}, {"n/d", "n*2|n/d", true, false}, {"r<0&d<0&n<0", "n*0", true, false}, {"r<0&r>1", "r<0&d<0&n<0", true, false}, {"r>1", "r<0&r>1", false, true},
		{"r>4&r/r&d^4&n<0", "r<0&r>1", false, true}, {"r>5&d>5", "r>5&n>5", false, false}, {"r>5&d>5", "r>5", true, false}, {"r>5&d>5", "r>4&d>5", true, false}, {"r<5&d<4", "r<4&d<5", false, false},
	} {
		first, second := termIn(told.first), termIn(told.second)
		if impl.ImpliesTerm(first, second) != told.there {
			t.Errorf("%q implies %q: %v", told.first, told.second, !told.there)
		}
		if impl.ImpliesTerm(second, first) != told.back {
			t.Errorf("%q implies %q: %v", told.second, told.first, !told.back)
		}
	}
}

func TestP32Others(t *testing.T) {
	othersThanTerms(func(first []impl.Mark, second []impl.Mark) {
		if impl.ImpliesTerm(first, second) {
			t.Errorf("%v implies %v", first, second)
		}
	})
}

// TestP33 is for witnesses, which keep one alone, and are first.
func TestP33(t *testing.T) {
	t.Parallel()
	words := wordsUpTo(3)
	termPairs(func(first []impl.Mark, second []impl.Mark) {
		word, ok := impl.WitnessOf(first, second)
		m, firstOk := impl.MachineOf(first)
		k, secondOk := impl.MachineOf(second)
		right, is := "", false
		if firstOk && secondOk {
			right, is = shortestBy(pairOf(m, k, onlyOne), impl.MaxWord)
		}
		if ok != is || word != right {
			t.Fatalf("%q and %q, but for %q, %v: %q, %v", impl.TermText(first), impl.TermText(second), right, is, word, ok)
		}
		if ok && keepsTermBy(first, word) == keepsTermBy(second, word) {
			t.Fatalf("%q and %q, not but for %q", impl.TermText(first), impl.TermText(second), word)
		}
		if !firstOk || !secondOk {
			return
		}
		for _, shorter := range words {
			if ok && len(shorter) >= len(word) {
				break
			}
			if impl.KeepsTerm(first, shorter) != impl.KeepsTerm(second, shorter) {
				t.Fatalf("%q and %q, but for %q, not first %q, %v", impl.TermText(first), impl.TermText(second), shorter, word, ok)
			}
		}
	})
}

func TestP33Examples(t *testing.T) {
	none := "r<0&r>1"
	for _, told := range []struct {
		first, second string
		word          string
		ok            bool
	}{
		{"n*2&n/d", "n*3", "nd", true}, {"n*2&n/d", "n/d&n*2", "", false}, {"n*2", "n*3", "nnn", true}, {"n/d", "d/n", "dn", true}, {"d/n", "n/n", "dn", true},
		{"n*2", "!n*2", "", true}, {"r>1", "n*2", "", true}, {"n*2", none, "", true}, {none, "r<0|r>1", "", true}, {"r>1", none, "r", true}, {none, "n*0&!n*0", "", false}, {"r<0|r>1", "n*0|!n*0", "", false},
		{"r<0&d<0&n<0", none, "", true}, {"r<0&d<0&n<0", "r*0&d<0", "n", true}, {"r<0|r>1", "r>1|d>1|n>1", "", true}, {"r<5", "r<4", "rrrrr", true},
		{"r>5&d>5", "r>5&n>5", "rrrrrddddd", true}, {"r>5&n>5", "d>5&r>5", "rrrrrddddd", true}, {"d>5&n>5", "r>5&n>5", "rrrrrnnnnn", true}, {"r>5&d>3&n>1", "r>5&d>3", "rrrrrddd", true}, {"r>5&d>3&n>1", none, "rrrrrdddn", true},
		{"r>5&r/r&d^2&n<0", none, "rddrddrddrddr", true}, {"!n<5&!r*3&n/n", none, "nrrrrnrnrnrnrn", true}, {"r/d&(n^4&d*2&!d<5)", none, "ddnnnnddnnnndd", true},
		{"r>4&r/r&d^4&n<0", none, "", false}, {"n/d&(r^4&!d<5)&d*1", none, "", false},
		{"r/d&(n^4&d*2&d>5)", "r<0&(n^4&d*2&d>5)", "drnnnnddnnnndd", true}, {"r/d&(n^4&d*2&!d<5)", "r<0&(n^4&d*2&!d<5)", "", false},
	} {
		first, second := termIn(told.first), termIn(told.second)
		if word, ok := impl.WitnessOf(first, second); ok != told.ok || word != told.word {
			t.Errorf("%q and %q: %q, %v", told.first, told.second, word, ok)
		}
		if word, ok := impl.WitnessOf(second, first); ok != told.ok || word != told.word {
			t.Errorf("%q and %q: %q, %v", told.second, told.first, word, ok)
		}
	}
	// These differ first in a word of just one letter more than MaxWord.
	m, _ := impl.MachineOf(termIn("r/d&(n^4&d*2&!d<5)"))
	k, _ := impl.MachineOf(termIn("r<0&(n^4&d*2&!d<5)"))
	if word, ok := shortestBy(pairOf(m, k, onlyOne), 20); !ok || len(word) != impl.MaxWord+1 {
		t.Errorf("%q, %v", word, ok)
	}
}

func TestP33Others(t *testing.T) {
	othersThanTerms(func(first []impl.Mark, second []impl.Mark) {
		if word, ok := impl.WitnessOf(first, second); ok || word != "" {
			t.Errorf("%v and %v: %q, %v", first, second, word, ok)
		}
	})
}

// law has two terms of three ones, of which each letter a, b and c is one, that are kept by the same words.
type law struct {
	first, second string
}

// laws returns what is known of and, or and not.
func laws() []law {
	return []law{
		{"ab&!", "a!b!|"}, {"ab|!", "a!b!&"}, {"abc|&", "ab&ac&|"}, {"abc&|", "ab|ac|&"}, {"ab|c&", "ac&bc&|"}, {"ab&", "ba&"}, {"ab|", "ba|"}, {"abc&&", "ab&c&"}, {"abc||", "ab|c|"},
		{"a!!", "a"}, {"aa&", "a"}, {"aa|", "a"}, {"aab|&", "a"}, {"aab&|", "a"}, {"aa!|b&", "b"}, {"aa!&b|", "b"}, {"aa!|", "bb!|"}, {"aa!&", "bb!&"},
	}
}

// putIn returns a row of marks written by letters, with terms for a, b and c.
func putIn(written string, terms [3][]impl.Mark) []impl.Mark {
	var row []impl.Mark
	for _, mark := range written {
		switch mark {
		case '&':
			row = append(row, bothMark)
		case '|':
			row = append(row, eitherMark)
		case '!':
			row = append(row, notMark)
		default:
			row = append(row, terms[mark-'a']...)
		}
	}
	return row
}

// checkLaws checks all laws for three terms: they hold exactly if both terms have machines.
func checkLaws(t *testing.T, terms [3][]impl.Mark) {
	t.Helper()
	for _, l := range laws() {
		first, second := putIn(l.first, terms), putIn(l.second, terms)
		_, firstOk := impl.MachineOf(first)
		_, secondOk := impl.MachineOf(second)
		right := firstOk && secondOk
		if impl.SameTerms(first, second) != right || impl.ImpliesTerm(second, first) != right {
			t.Fatalf("%s and %s: %q and %q are not the same", l.first, l.second, impl.TermText(first), impl.TermText(second))
		}
		if word, ok := impl.WitnessOf(first, second); ok || word != "" {
			t.Fatalf("%s and %s: %q and %q, but for %q", l.first, l.second, impl.TermText(first), impl.TermText(second), word)
		}
	}
}

// TestP34 is for what is known of and, or and not, of three drawn rules.
func TestP34(t *testing.T) {
	t.Parallel()
	d := &drawing{seed: 34}
	terms := termsOfOneRule()
	for range 250 {
		checkLaws(t, [3][]impl.Mark{terms[d.below(len(terms))], terms[d.below(len(terms))], terms[d.below(len(terms))]})
	}
}

// TestP34Terms is for drawn terms of more than one mark, as far as they make terms.
func TestP34Terms(t *testing.T) {
	t.Parallel()
	d := &drawing{seed: 43}
	terms := slices.Concat(nearTerms(2, 3), keptByNone()[:2], keptByAll()[:2])
	for range 300 {
		checkLaws(t, [3][]impl.Mark{terms[d.below(len(terms))], terms[d.below(len(terms))], terms[d.below(len(terms))]})
	}
}

// TestP34NotThere checks that laws are told to hold of terms with machines alone.
func TestP34NotThere(t *testing.T) {
	if impl.SameTerms(termIn("!(r<5&d<3&n<1)"), termIn("!(r<5&d<3)|!n<1")) {
		t.Error("the first one has no machine")
	}
	if impl.SameTerms(termIn("r>5&d>5&n>5"), termIn("d>5&r>5&n>5")) || impl.SameTerms(termIn("n/d&r<0&(r>5&d>5&n>5)"), termIn("r<0&r>1")) {
		t.Error("none of both has a machine")
	}
	if !impl.SameTerms(termIn("!(r<5&d<2&n<1)"), termIn("!(r<5&d<2)|!n<1")) {
		t.Error("both have machines")
	}
}

// TestMeaningsChangeNothing checks that what is asked of terms leaves them, and what is behind them, as they were.
func TestMeaningsChangeNothing(t *testing.T) {
	whole := marksOf("ab|c&!de&")
	before := slices.Clone(whole)
	first, second := whole[:6], whole[6:]
	impl.KeepsTerm(first, "rdn")
	impl.MachineOf(first)
	impl.SameTerms(first, second)
	impl.ImpliesTerm(second, first)
	impl.WitnessOf(first, second)
	if !slices.Equal(whole, before) {
		t.Errorf("%v", whole)
	}
}
