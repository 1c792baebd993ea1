package tests

import (
	"strings"

	"loop.example/dutyrosters/impl"
)

// rowOf, runOf, atMostOf and atLeastOf return rules with a number; neverOf returns one with two letters.
func rowOf(letter string, many int) impl.Rule {
	return impl.Rule{Kind: impl.RuleRow, Letter: letter, Many: many}
}

func runOf(letter string, many int) impl.Rule {
	return impl.Rule{Kind: impl.RuleRun, Letter: letter, Many: many}
}

func neverOf(letter string, then string) impl.Rule {
	return impl.Rule{Kind: impl.RuleNever, Letter: letter, Then: then}
}

func atMostOf(letter string, many int) impl.Rule {
	return impl.Rule{Kind: impl.RuleAtMost, Letter: letter, Many: many}
}

func atLeastOf(letter string, many int) impl.Rule {
	return impl.Rule{Kind: impl.RuleAtLeast, Letter: letter, Many: many}
}

// allRules returns all rules, written out by their bounds.
func allRules() []impl.Rule {
	var rules []impl.Rule
	for _, letter := range eachLetter() {
		for _, then := range eachLetter() {
			rules = append(rules, neverOf(letter, then))
		}
		for _, many := range []int{0, 1, 2, 3, 4} {
			rules = append(rules, rowOf(letter, many))
		}
		for _, many := range []int{2, 3, 4} {
			rules = append(rules, runOf(letter, many))
		}
		for _, many := range []int{0, 1, 2, 3, 4, 5} {
			rules = append(rules, atMostOf(letter, many))
		}
		for _, many := range []int{1, 2, 3, 4, 5} {
			rules = append(rules, atLeastOf(letter, many))
		}
	}
	return rules
}

// rulesAndOthers returns rules and values near them: all with kinds, letters and numbers around the bounds.
func rulesAndOthers() []impl.Rule {
	var rules []impl.Rule
	texts := append(eachLetter(), "", "x", "R", "rr", "rd", "r ", "\x00", "ř")
	kinds := []int{-1 << 63, -1, 0, 1, 2, 3, 4, 5, 6, 1 << 32, 1<<63 - 1}
	numbers := []int{-1 << 63, -2, -1, 0, 1, 2, 3, 4, 5, 6, 7, 14, 1 << 32, 1<<63 - 1}
	for _, kind := range kinds {
		for _, letter := range texts {
			for _, then := range texts {
				for _, many := range numbers {
					rules = append(rules, impl.Rule{Kind: kind, Letter: letter, Then: then, Many: many})
				}
			}
		}
	}
	return rules
}

// badRules returns values of rulesAndOthers that are no rules.
func badRules() []impl.Rule {
	good := map[impl.Rule]bool{}
	for _, rule := range allRules() {
		good[rule] = true
	}
	var bad []impl.Rule
	for _, rule := range rulesAndOthers() {
		if !good[rule] {
			bad = append(bad, rule)
		}
	}
	return bad
}

// keepsBy reports whether a text of any length keeps a rule, by texts that are in it or not.
func keepsBy(rule impl.Rule, text string) bool {
	switch rule.Kind {
	case impl.RuleRow:
		return !strings.Contains(text, strings.Repeat(rule.Letter, rule.Many+1))
	case impl.RuleRun:
		for _, run := range strings.FieldsFunc(text, func(l rune) bool { return string(l) != rule.Letter }) {
			if len(run) < rule.Many {
				return false
			}
		}
		return true
	case impl.RuleNever:
		for at := 1; at < len(text); at++ {
			if text[at-1:at] == rule.Letter && text[at:at+1] == rule.Then {
				return false
			}
		}
		return true
	case impl.RuleAtMost:
		return strings.Count(text, rule.Letter) <= rule.Many
	}
	return strings.Count(text, rule.Letter) >= rule.Many
}

// openBy reports whether some text that begins with a text keeps a rule: 5 letters behind it are enough, if any are.
func openBy(rule impl.Rule, text string) bool {
	behind := []string{""}
	for _, letter := range eachLetter() {
		for many := 1; many <= 5; many++ {
			behind = append(behind, strings.Repeat(letter, many))
		}
	}
	for _, further := range behind {
		if keepsBy(rule, text+further) {
			return true
		}
	}
	return false
}

// brokenBy returns the fewest first letters of a text that no text keeps a rule with, and -1 if there are none.
func brokenBy(rule impl.Rule, text string) int {
	for many := range len(text) + 1 {
		if !openBy(rule, text[:many]) {
			return many
		}
	}
	return -1
}

// stateBy returns the state in which the machine of a rule is told to be by a text that is not broken for good.
func stateBy(rule impl.Rule, text string) int {
	ended := len(text) - len(strings.TrimRight(text, rule.Letter))
	switch rule.Kind {
	case impl.RuleNever:
		return min(ended, 1)
	case impl.RuleRow, impl.RuleRun:
		return min(ended, rule.Many)
	}
	return min(strings.Count(text, rule.Letter), rule.Many)
}

// longTexts draws texts of letters, some longer than words, among them those in which one letter is drawn more often.
func longTexts() []string {
	d := &drawing{seed: 3}
	var texts []string
	for at := range 240 {
		text := ""
		often := d.below(3)
		for range 5 + at%50 {
			letter := d.below(3)
			if d.below(4) > 0 {
				letter = often
			}
			if d.below(6) == 0 {
				often = d.below(3)
			}
			text += letters[letter : letter+1]
		}
		texts = append(texts, text)
	}
	return texts
}
