package tests

import (
	"slices"
	"strings"
	"testing"

	"loop.example/dutyrosters/impl"
)

// wordsForRules returns all words of at most 5 letters, and longer ones, with the runs and counts that rules bound.
func wordsForRules() []string {
	words := append(wordsUpTo(5), longWords()...)
	for _, text := range longTexts() {
		words = append(words, text[:min(len(text), impl.MaxWord)])
	}
	return words
}

func TestRuleKinds(t *testing.T) {
	kinds := []int{impl.RuleRow, impl.RuleRun, impl.RuleNever, impl.RuleAtMost, impl.RuleAtLeast}
	if !slices.Equal(kinds, []int{0, 1, 2, 3, 4}) {
		t.Fatal(kinds)
	}
}

// TestP19 is for rules of any letter.
func TestP19(t *testing.T) {
	for _, letter := range eachLetter() {
		if !impl.RuleOk(rowOf(letter, 0)) {
			t.Errorf("at most 0 of %q in a row is a rule", letter)
		}
		if !impl.RuleOk(neverOf(letter, letter)) {
			t.Errorf("never %q after %q is a rule", letter, letter)
		}
	}
	for _, rule := range allRules() {
		if !impl.RuleOk(rule) {
			t.Errorf("%v is a rule", rule)
		}
		for _, letter := range eachLetter() {
			other := rule
			other.Letter = letter
			if !impl.RuleOk(other) {
				t.Errorf("%v is a rule, as %v is", other, rule)
			}
		}
	}
}

func TestP19Others(t *testing.T) {
	for _, rule := range append(badRules(), impl.Rule{}) {
		if impl.RuleOk(rule) {
			t.Errorf("%v is no rule", rule)
		}
	}
	many := 0
	for _, rule := range rulesAndOthers() {
		if impl.RuleOk(rule) {
			many++
		}
	}
	if many != len(allRules()) || many != 66 {
		t.Errorf("%d rules", many)
	}
}

// TestP19OtherBytes tries each byte as a letter.
func TestP19OtherBytes(t *testing.T) {
	for b := range 256 {
		text := string([]byte{byte(b)})
		right := strings.Contains(letters, text)
		for _, rule := range []impl.Rule{
			rowOf(text, 1), runOf(text, 2), atMostOf(text, 0), atLeastOf(text, 1), neverOf(text, "r"), neverOf("r", text),
		} {
			if impl.RuleOk(rule) != right {
				t.Errorf("byte %d as a letter, kind %d: %v", b, rule.Kind, !right)
			}
		}
	}
}

// TestP20 is for what is kept, and taken by the machine of the rule.
func TestP20(t *testing.T) {
	words := wordsForRules()
	for _, rule := range allRules() {
		m, ok := impl.MachineFor(rule)
		if !ok {
			t.Fatalf("%v has a machine", rule)
		}
		backRule := rule
		if rule.Kind == impl.RuleNever {
			backRule = neverOf(rule.Then, rule.Letter)
		}
		for _, word := range words {
			keeps := impl.KeepsRule(rule, word)
			if keeps != keepsBy(rule, word) {
				t.Fatalf("%q keeps %v: %v", word, rule, keeps)
			}
			if keeps != impl.TakesOk(m, word) {
				t.Fatalf("%q keeps %v: %v, but %v", word, rule, keeps, m)
			}
			if impl.KeepsRule(backRule, impl.BackWord(word)) != keeps {
				t.Fatalf("%q keeps %v: %v, but not back", word, rule, keeps)
			}
		}
	}
}

func TestP20EmptyWord(t *testing.T) {
	for _, rule := range allRules() {
		if impl.KeepsRule(rule, "") != (rule.Kind != impl.RuleAtLeast) {
			t.Errorf("the empty word and %v", rule)
		}
	}
}

func TestP20Examples(t *testing.T) {
	for _, told := range []struct {
		rule        impl.Rule
		kept, never string
	}{
		{rowOf("n", 0), " r drdr rrrrrrrrrrrrrr ", "n rn nr rrrrrrrrrrrrrn"},
		{rowOf("n", 2), "nn nnrnn ndnn nnrnnrnnrnnrnn ", "nnn nnrnnn rnnn nnnr nnnnnnnnnnnnnn"},
		{rowOf("r", 4), "rrrr rrrrdrrrr ", "rrrrr drrrrr"},
		{runOf("n", 2), "nn nnn nnrnnn rd rrnnddnn ", "n nr rn nnrn nrnn nnrnrnn"},
		{runOf("d", 4), "dddd ddddd rddddndddd ", "d ddd dddrdddd ddddrddd rdddr"},
		{neverOf("n", "d"), "dn nrd nnrrd d n ", "nd rnd nnd ndr dnd"},
		{neverOf("r", "r"), "r rdr rdrnrdrnrdrnrd d ddd ", "rr drr rrd rrr drrd"},
		{neverOf("n", "n"), "n nrn ndnrn ", "nn nnn rnnr"},
		{atMostOf("d", 0), "r rnnr ", "d rd nnnnnnnnnnnnnd"},
		{atMostOf("d", 2), "dd rdrdr d rrr ", "ddd drdrd"},
		{atMostOf("n", 5), "nnnnn nrnrnrnrn ", "nnnnnn nrnrnrnrnrn"},
		{atLeastOf("r", 1), "r dr rd nnnnnnnnnnnnnr", "d n ddnn "},
		{atLeastOf("r", 2), "rr rdr rdddr rrr", "r rd d "},
		{atLeastOf("d", 5), "ddddd drdrdrdrd dddddd", "dddd drdrdrdr rrrrrrrrrrdddd "},
	} {
		for _, word := range strings.Split(told.kept, " ") {
			if !impl.KeepsRule(told.rule, word) {
				t.Errorf("%q keeps %v", word, told.rule)
			}
		}
		for _, word := range strings.Split(told.never, " ") {
			if impl.KeepsRule(told.rule, word) {
				t.Errorf("%q does not keep %v", word, told.rule)
			}
		}
	}
}

// TestP20Others is for what is no rule, or no word.
func TestP20Others(t *testing.T) {
	for _, rule := range badRules() {
		for _, word := range []string{"", "r", "d", "n", "rdn", "nnnnnnnnnnnnnn", "x"} {
			if impl.KeepsRule(rule, word) {
				t.Errorf("%q keeps %v, which is no rule", word, rule)
			}
		}
	}
	for _, rule := range allRules() {
		for _, word := range badWords() {
			if impl.KeepsRule(rule, word) {
				t.Errorf("%q, which is no word, keeps %v", word, rule)
			}
		}
	}
}

// TestP21 is for the machines of rules, which have no states too many.
func TestP21(t *testing.T) {
	words := drawnWords()
	for _, rule := range allRules() {
		m, ok := impl.MachineFor(rule)
		if !ok || !impl.MachineOk(m) {
			t.Fatalf("%v: %v, %v", rule, m, ok)
		}
		states := rule.Many + 1
		if rule.Kind == impl.RuleNever {
			states = 2
		}
		if trimmed := impl.TrimmedMachine(m); m.States != states || trimmed.States != states {
			t.Errorf("%v: %v, trimmed %v", rule, m, trimmed)
		}
		for _, word := range words {
			if impl.TakesOk(m, word) != impl.KeepsRule(rule, word) {
				t.Fatalf("%v: %v, %q", rule, m, word)
			}
		}
	}
}

// TestP21States checks in which state the machines are, and that they stop just where all is lost.
func TestP21States(t *testing.T) {
	texts := append(wordsUpTo(5), longTexts()...)
	for _, rule := range allRules() {
		m, _ := impl.MachineFor(rule)
		for _, text := range texts {
			state := goesTo(m, 0, text)
			right := -1
			if openBy(rule, text) {
				right = stateBy(rule, text)
			}
			if state != right {
				t.Fatalf("%v: %v, by %q in %d, not %d", rule, m, text, state, right)
			}
			if takes(m, text) != keepsBy(rule, text) {
				t.Fatalf("%v: %v, %q", rule, m, text)
			}
		}
	}
}

func TestP21Examples(t *testing.T) {
	for _, told := range []struct {
		rule impl.Rule
		m    impl.Machine
	}{
		{rowOf("n", 0), made("1", 0, 0, -1)},
		{rowOf("r", 2), made("111", 1, 0, 0, 2, 0, 0, -1, 0, 0)},
		{rowOf("d", 4), made("11111", 0, 1, 0, 0, 2, 0, 0, 3, 0, 0, 4, 0, 0, -1, 0)},
		{runOf("n", 2), made("101", 0, 0, 1, -1, -1, 2, 0, 0, 2)},
		{runOf("r", 3), made("1001", 1, 0, 0, 2, -1, -1, 3, -1, -1, 3, 0, 0)},
		{neverOf("n", "d"), made("11", 0, 0, 1, 0, -1, 1)},
		{neverOf("r", "n"), made("11", 1, 0, 0, 1, 0, -1)},
		{neverOf("r", "r"), made("11", 1, 0, 0, -1, 0, 0)},
		{neverOf("d", "d"), made("11", 0, 1, 0, 0, -1, 0)},
		{atMostOf("d", 0), made("1", 0, -1, 0)},
		{atMostOf("n", 2), made("111", 0, 0, 1, 1, 1, 2, 2, 2, -1)},
		{atLeastOf("r", 1), made("01", 1, 0, 0, 1, 1, 1)},
		{atLeastOf("d", 3), made("0001", 0, 1, 0, 1, 2, 1, 2, 3, 2, 3, 3, 3)},
	} {
		if m, ok := impl.MachineFor(told.rule); !ok || !equalMachines(m, told.m) {
			t.Errorf("%v: %v, %v", told.rule, m, ok)
		}
	}
}

func TestP21Others(t *testing.T) {
	for _, rule := range append(badRules(), impl.Rule{}) {
		if m, ok := impl.MachineFor(rule); ok || !isNothing(m) {
			t.Errorf("%v, which is no rule: %v, %v", rule, m, ok)
		}
	}
}

func TestP21NewMemory(t *testing.T) {
	for _, rule := range allRules() {
		first, _ := impl.MachineFor(rule)
		second, _ := impl.MachineFor(rule)
		right := cloned(second)
		spoiled(first)
		third, _ := impl.MachineFor(rule)
		if !equalMachines(second, right) || !equalMachines(third, right) {
			t.Errorf("%v shares memory", rule)
		}
	}
}

// TestP22 is for what is broken for good, and never kept.
func TestP22(t *testing.T) {
	words := wordsForRules()
	behind := wordsUpTo(3)
	for _, rule := range allRules() {
		m, _ := impl.MachineFor(rule)
		for _, word := range words {
			at := impl.BrokenAt(rule, word)
			stops := -1
			for many := len(word); many >= 0; many-- {
				if impl.StateAfter(m, word[:many]) == -1 {
					stops = many
				}
			}
			if at != stops || at != brokenBy(rule, word) {
				t.Fatalf("%v is broken in %q at %d, not %d", rule, word, at, stops)
			}
			if at < 0 {
				continue
			}
			for _, further := range append(behind, word[at:]) {
				if longer := word[:at] + further; impl.WordOk(longer) && impl.KeepsRule(rule, longer) {
					t.Fatalf("%v is broken in %q at %d, but kept by %q", rule, word, at, longer)
				}
			}
		}
	}
}

func TestP22Examples(t *testing.T) {
	for _, told := range []struct {
		rule impl.Rule
		word string
		at   int
	}{
		{rowOf("n", 2), "rnnnr", 4}, {rowOf("n", 2), "nnrnn", -1}, {rowOf("n", 0), "n", 1}, {rowOf("n", 0), "rrn", 3},
		{rowOf("r", 4), "rrrrrrrrrrrrrr", 5}, {rowOf("d", 4), "rrrrrrrrrddddd", 14},
		{runOf("n", 2), "nr", 2}, {runOf("n", 2), "rn", -1}, {runOf("n", 2), "nnrnd", 5}, {runOf("d", 4), "dddndddd", 4},
		{runOf("n", 2), "rrrrrrrrrrrrrn", -1}, {runOf("n", 4), "rrrrrrrrrrrnnr", 14},
		{neverOf("n", "d"), "rnd", 3}, {neverOf("n", "d"), "nrd", -1}, {neverOf("r", "r"), "drrr", 3}, {neverOf("r", "r"), "rdrdr", -1},
		{neverOf("d", "d"), "dd", 2}, {atMostOf("d", 0), "rrd", 3}, {atMostOf("d", 2), "drdrrdd", 6}, {atMostOf("d", 5), "ddddd", -1},
		{atLeastOf("r", 2), "dd", -1}, {atLeastOf("r", 5), "dddddddddddddd", -1},
	} {
		if at := impl.BrokenAt(told.rule, told.word); at != told.at {
			t.Errorf("%v is broken in %q at %d", told.rule, told.word, at)
		}
	}
	for _, rule := range allRules() {
		if at := impl.BrokenAt(rule, ""); at != -1 {
			t.Errorf("%v is broken by the empty word: %d", rule, at)
		}
	}
}

// TestP22Others is for what is no rule, or no word, even where its first letters break the rule.
func TestP22Others(t *testing.T) {
	for _, rule := range append(badRules(), impl.Rule{}) {
		for _, word := range []string{"", "r", "nnnnnn", "rdnrdn", "x"} {
			if at := impl.BrokenAt(rule, word); at != -1 {
				t.Errorf("%v, which is no rule, is broken in %q at %d", rule, word, at)
			}
		}
	}
	for _, rule := range allRules() {
		for _, word := range append(badWords(), "nnnnnnx", "rrrrrrx", "ddddddx", "rdrdndnrnrrx") {
			if at := impl.BrokenAt(rule, word); at != -1 {
				t.Errorf("%v is broken in %q, which is no word, at %d", rule, word, at)
			}
		}
	}
}
