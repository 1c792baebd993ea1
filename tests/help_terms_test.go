package tests

import (
	"iter"
	"slices"
	"strings"
	"sync"

	"loop.example/dutyrosters/impl"
)

// isRule returns the mark of a rule; bothMark, eitherMark and notMark are the marks without one.
func isRule(rule impl.Rule) impl.Mark {
	return impl.Mark{Kind: impl.MarkRule, Its: rule}
}

var (
	bothMark   = impl.Mark{Kind: impl.MarkAnd}
	eitherMark = impl.Mark{Kind: impl.MarkOr}
	notMark    = impl.Mark{Kind: impl.MarkNot}
)

// marksOf returns a row of marks written by letters: each of a..e is a rule, & and | are both and either, and ! is not.
func marksOf(written string) []impl.Mark {
	rules := map[rune]impl.Rule{
		'a': rowOf("n", 2), 'b': neverOf("n", "d"), 'c': atLeastOf("r", 2), 'd': runOf("d", 4), 'e': atMostOf("d", 0),
	}
	var t []impl.Mark
	for _, mark := range written {
		switch mark {
		case '&':
			t = append(t, bothMark)
		case '|':
			t = append(t, eitherMark)
		case '!':
			t = append(t, notMark)
		default:
			t = append(t, isRule(rules[mark]))
		}
	}
	return t
}

// markRows yields all rows of at most so many of a rule, both, either and not; the rules are all different ones, one after the other. A row is kept until the next one only.
func markRows(most int) iter.Seq[[]impl.Mark] {
	rules := allRules()
	many := 0
	return func(yield func(row []impl.Mark) bool) {
		var longer func(row []impl.Mark) bool
		longer = func(row []impl.Mark) bool {
			if !yield(row) {
				return false
			}
			if len(row) == most {
				return true
			}
			many++
			for _, mark := range []impl.Mark{isRule(rules[many%len(rules)]), bothMark, eitherMark, notMark} {
				if !longer(append(row, mark)) {
					return false
				}
			}
			return true
		}
		longer(make([]impl.Mark, 0, most))
	}
}

// joinedRows returns rows of marks behind each other, in new memory.
func joinedRows(rows ...[]impl.Mark) []impl.Mark {
	var joined []impl.Mark
	for _, row := range rows {
		joined = append(joined, row...)
	}
	return joined
}

// secondPart returns where the second part of a row of marks, of whose last two parts the last mark makes one, begins: -1 if these are not two parts.
func secondPart(t []impl.Mark) int {
	for at := 1; at < len(t)-1; at++ {
		if isPart(t[:at]) && isPart(t[at:len(t)-1]) {
			return at
		}
	}
	return -1
}

// isPart reports whether a row of any number of kinds of marks is one part, by what its last mark makes one of; it does not look at rules.
func isPart(t []impl.Mark) bool {
	if len(t) == 0 {
		return false
	}
	switch t[len(t)-1].Kind {
	case impl.MarkRule:
		return len(t) == 1
	case impl.MarkNot:
		return isPart(t[:len(t)-1])
	}
	return secondPart(t) > 0
}

// allTerms returns, for each shape of terms of at most MaxMarks marks, one of that shape.
func allTerms() [][]impl.Mark {
	var terms [][]impl.Mark
	for t := range markRows(impl.MaxMarks) {
		if isPart(t) {
			terms = append(terms, slices.Clone(t))
		}
	}
	return terms
}

// ruleTextBy returns the text of a rule, as it is told.
func ruleTextBy(rule impl.Rule) string {
	number := string("0123456789"[rule.Many])
	switch rule.Kind {
	case impl.RuleRow:
		return rule.Letter + "*" + number
	case impl.RuleRun:
		return rule.Letter + "^" + number
	case impl.RuleNever:
		return rule.Letter + "/" + rule.Then
	case impl.RuleAtMost:
		return rule.Letter + "<" + number
	}
	return rule.Letter + ">" + number
}

// rulesByText returns all rules by their texts.
var rulesByText = sync.OnceValue(func() map[string]impl.Rule {
	rules := map[string]impl.Rule{}
	for _, rule := range allRules() {
		rules[ruleTextBy(rule)] = rule
	}
	return rules
})

// textBy returns the text of a term, as it is told, by its last mark and its parts.
func textBy(t []impl.Mark) string {
	end := len(t) - 1
	switch t[end].Kind {
	case impl.MarkRule:
		return ruleTextBy(t[end].Its)
	case impl.MarkNot:
		part := textBy(t[:end])
		if last := t[end-1].Kind; last == impl.MarkOr || last == impl.MarkAnd {
			part = "(" + part + ")"
		}
		return "!" + part
	}
	at := secondPart(t)
	first, second := textBy(t[:at]), textBy(t[at:end])
	firstLast, secondLast := t[at-1].Kind, t[end-1].Kind
	if t[end].Kind == impl.MarkOr {
		if secondLast == impl.MarkOr {
			second = "(" + second + ")"
		}
		return first + "|" + second
	}
	if firstLast == impl.MarkOr {
		first = "(" + first + ")"
	}
	if secondLast == impl.MarkOr || secondLast == impl.MarkAnd {
		second = "(" + second + ")"
	}
	return first + "&" + second
}

// heldBy returns all terms whose text a text is, in round brackets exactly if their last mark is of one of some kinds.
func heldBy(s string, kinds ...int) [][]impl.Mark {
	terms := keptIf(termsBy(s), false, kinds)
	if strings.HasPrefix(s, "(") && strings.HasSuffix(s, ")") {
		terms = append(terms, keptIf(termsBy(s[1:len(s)-1]), true, kinds)...)
	}
	return terms
}

// keptIf returns the terms of which it is as told whether their last mark is of one of some kinds.
func keptIf(terms [][]impl.Mark, among bool, kinds []int) [][]impl.Mark {
	var kept [][]impl.Mark
	for _, t := range terms {
		if slices.Contains(kinds, t[len(t)-1].Kind) == among {
			kept = append(kept, t)
		}
	}
	return kept
}

// termsBy returns all terms, of any number of marks, whose text a text is, by trying each place of a last mark.
func termsBy(s string) [][]impl.Mark {
	var terms [][]impl.Mark
	if rule, ok := rulesByText()[s]; ok {
		terms = append(terms, []impl.Mark{isRule(rule)})
	}
	if strings.HasPrefix(s, "!") {
		for _, part := range heldBy(s[1:], impl.MarkOr, impl.MarkAnd) {
			terms = append(terms, joinedRows(part, []impl.Mark{notMark}))
		}
	}
	for at := range len(s) {
		var firsts, seconds [][]impl.Mark
		last := eitherMark
		switch s[at] {
		case '|':
			firsts, seconds = termsBy(s[:at]), heldBy(s[at+1:], impl.MarkOr)
		case '&':
			last = bothMark
			firsts, seconds = heldBy(s[:at], impl.MarkOr), heldBy(s[at+1:], impl.MarkOr, impl.MarkAnd)
		}
		for _, first := range firsts {
			for _, second := range seconds {
				terms = append(terms, joinedRows(first, second, []impl.Mark{last}))
			}
		}
	}
	return terms
}
