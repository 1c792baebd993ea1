package tests

import (
	"slices"
	"strings"
	"testing"

	"loop.example/dutyrosters/impl"
)

func TestMarkKinds(t *testing.T) {
	kinds := []int{impl.MarkRule, impl.MarkAnd, impl.MarkOr, impl.MarkNot, impl.MaxMarks}
	if !slices.Equal(kinds, []int{0, 1, 2, 3, 9}) {
		t.Fatal(kinds)
	}
}

// TestP23 is for rows of marks that are terms.
func TestP23(t *testing.T) {
	for _, rule := range allRules() {
		if !impl.TermOk([]impl.Mark{isRule(rule)}) {
			t.Errorf("%v alone is a term", rule)
		}
	}
	rules := allRules()
	for at, term := range allTerms() {
		if !impl.TermOk(term) {
			t.Fatalf("%v is a term", term)
		}
		further := isRule(rules[at%len(rules)])
		for _, longer := range [][]impl.Mark{
			joinedRows(term, []impl.Mark{further, bothMark}),
			joinedRows(term, []impl.Mark{further, eitherMark}),
			joinedRows([]impl.Mark{further}, term, []impl.Mark{bothMark}),
			joinedRows(term, []impl.Mark{notMark}),
			joinedRows(term, []impl.Mark{notMark, notMark}),
		} {
			if impl.TermOk(longer) != (len(longer) <= impl.MaxMarks) {
				t.Fatalf("%d marks: %v", len(longer), longer)
			}
		}
	}
}

// TestP23Rows tries all rows of kinds of marks.
func TestP23Rows(t *testing.T) {
	many := 0
	for row := range markRows(impl.MaxMarks + 1) {
		right := len(row) <= impl.MaxMarks && isPart(row)
		if impl.TermOk(row) != right {
			t.Fatalf("%v: %v", row, !right)
		}
		if right {
			many++
		}
	}
	if many != len(allTerms()) {
		t.Errorf("%d terms", many)
	}
}

func TestP23Examples(t *testing.T) {
	for _, written := range strings.Fields("a ab& ab| a! a!! ab&c| abc&| ab&cd|& abcde&&&& ab&c&d&e& a!b!& a!!!!!!!! ab&!!!!!!") {
		if !impl.TermOk(marksOf(written)) {
			t.Errorf("%s is a term", written)
		}
	}
	for _, written := range strings.Fields("& | ! ab a& a| !a &a a&b &ab |ab abc& ab&& a!b ab&c a&! abcde&&&&! a!!!!!!!!! abcdea&&&&& ab&!!!!!!! abcde&&&&&") {
		if impl.TermOk(marksOf(written)) {
			t.Errorf("%s is no term", written)
		}
	}
	if impl.TermOk(nil) || impl.TermOk([]impl.Mark{}) || impl.TermOk(make([]impl.Mark, 1000)) {
		t.Error("no marks, and marks without rules, are no terms")
	}
	if impl.TermOk(joinedRows(marksOf("a"), slices.Repeat([]impl.Mark{notMark}, 1<<20))) {
		t.Error("1048577 marks are no term")
	}
}

// badTerms returns rows of marks that are no terms, in each of which one mark is spoiled, or that have too many or too few.
func badTerms() [][]impl.Mark {
	bad := [][]impl.Mark{nil, {}}
	for _, written := range strings.Fields("& | ! ab a& !a a&b &ab ab&& a!b ab&c a!!!!!!!!! abcde&&&&! abcdea&&&&&") {
		bad = append(bad, marksOf(written))
	}
	spoiling := func(term []impl.Mark, at int, mark impl.Mark) {
		spoilt := slices.Clone(term)
		spoilt[at] = mark
		bad = append(bad, spoilt)
	}
	someBad := []impl.Rule{{}, rowOf("n", 5), rowOf("n", -1), rowOf("x", 1), rowOf("nn", 1), runOf("d", 1), neverOf("n", ""), atMostOf("r", 6), atLeastOf("r", 0),
		{Kind: 5, Letter: "n", Many: 1}, {Kind: -1, Letter: "n", Many: 1}, {Kind: impl.RuleRow, Letter: "n", Then: "d", Many: 1}, {Kind: impl.RuleNever, Letter: "n", Then: "d", Many: 1}}
	someIts := append(someBad[1:], rowOf("n", 0), neverOf("n", "d"), impl.Rule{Kind: 1}, impl.Rule{Letter: "r"}, impl.Rule{Then: "r"}, impl.Rule{Many: 1})
	for _, written := range []string{"a", "ab&", "ab|c&", "a!", "ab!|", "abcde&|&|"} {
		term := marksOf(written)
		for at, mark := range term {
			for _, kind := range []int{-1 << 63, -1, 4, 5, 1 << 32, 1<<63 - 1} {
				spoiling(term, at, impl.Mark{Kind: kind, Its: mark.Its})
				spoiling(term, at, impl.Mark{Kind: kind})
			}
			its := someIts
			if mark.Kind == impl.MarkRule {
				its = someBad
			}
			for _, rule := range its {
				spoiling(term, at, impl.Mark{Kind: mark.Kind, Its: rule})
			}
		}
	}
	return bad
}

func TestP23Others(t *testing.T) {
	for _, term := range badTerms() {
		if impl.TermOk(term) {
			t.Errorf("%v is no term", term)
		}
	}
	for _, rule := range badRules() {
		if impl.TermOk([]impl.Mark{isRule(rule)}) {
			t.Errorf("%v, which is no rule, is no term", rule)
		}
		if rule != (impl.Rule{}) && impl.TermOk(joinedRows(marksOf("a"), []impl.Mark{{Kind: impl.MarkNot, Its: rule}})) {
			t.Errorf("not has no rule: %v", rule)
		}
	}
}

// TestP24 is for the texts of rules, which are read.
func TestP24(t *testing.T) {
	texts := map[string]bool{}
	for _, rule := range allRules() {
		text := impl.RuleText(rule)
		if len(text) != 3 || text != ruleTextBy(rule) || texts[text] {
			t.Errorf("%v: %q", rule, text)
		}
		texts[text] = true
		if read, ok := impl.ReadRule(text); !ok || read != rule {
			t.Errorf("%q is %v, not %v, %v", text, rule, read, ok)
		}
	}
}

func TestP24Examples(t *testing.T) {
	for _, told := range []struct {
		rule impl.Rule
		text string
	}{
		{rowOf("n", 2), "n*2"}, {rowOf("r", 0), "r*0"}, {rowOf("d", 4), "d*4"}, {runOf("d", 4), "d^4"}, {runOf("n", 2), "n^2"},
		{neverOf("n", "d"), "n/d"}, {neverOf("r", "r"), "r/r"}, {atMostOf("d", 0), "d<0"}, {atMostOf("n", 5), "n<5"}, {atLeastOf("r", 1), "r>1"}, {atLeastOf("r", 5), "r>5"},
	} {
		if text := impl.RuleText(told.rule); text != told.text {
			t.Errorf("%v: %q", told.rule, text)
		}
	}
}

func TestP24Others(t *testing.T) {
	for _, rule := range badRules() {
		if text := impl.RuleText(rule); text != "" {
			t.Errorf("%v, which is no rule: %q", rule, text)
		}
	}
}

// TestP25 tries all texts of three bytes that are near those of rules.
func TestP25(t *testing.T) {
	texts := rulesByText()
	near := "rdnxRDN*^/<>+-=|&!() \n\x00\xff0123456789aš"
	many := 0
	for a := range len(near) {
		for b := range len(near) {
			for c := range len(near) {
				text := string([]byte{near[a], near[b], near[c]})
				right, is := texts[text]
				read, ok := impl.ReadRule(text)
				if ok != is || read != right {
					t.Fatalf("%q: %v, %v", text, read, ok)
				}
				term, ok := impl.ReadTerm(text)
				if ok != is {
					t.Fatalf("%q as a term: %v, %v", text, term, ok)
				}
				if !is {
					continue
				}
				many++
				if impl.RuleText(read) != text || !slices.Equal(term, []impl.Mark{isRule(right)}) {
					t.Errorf("%q: %v, %v", text, read, term)
				}
			}
		}
	}
	if many != 66 {
		t.Errorf("%d texts", many)
	}
}

// TestP25Others is for texts that are none of a rule: each byte in each place, and texts of other lengths.
func TestP25Others(t *testing.T) {
	texts := []string{"", "n", "n*", "*2", "n*22", "n*02", "n*+2", "n*-1", "n*2 ", " n*2", "n/dd", "nn/d", "n//d", "n*2\n", "(n*2)", "!n*2", "n*2&n*2", "ñ*2", "n*２", "r>1r>1", strings.Repeat("n*2", 1000)}
	for _, rule := range allRules() {
		text := ruleTextBy(rule)
		texts = append(texts, text[:2], text[1:], text+text[2:], text[:1]+text, text+"\x00")
		for b := range 256 {
			for at := range text {
				changed := []byte(text)
				changed[at] = byte(b)
				texts = append(texts, string(changed))
			}
		}
	}
	for _, text := range texts {
		right, is := rulesByText()[text]
		if read, ok := impl.ReadRule(text); ok != is || read != right {
			t.Errorf("%q: %v, %v", text, read, ok)
		}
	}
}

// TestP26 is for how many rules terms have.
func TestP26(t *testing.T) {
	for _, term := range allTerms() {
		many, nots := 0, 0
		for _, mark := range term {
			switch mark.Kind {
			case impl.MarkRule:
				many++
			case impl.MarkNot:
				nots++
			}
		}
		rules := impl.RulesIn(term)
		if rules != many || rules+nots+rules-1 != len(term) {
			t.Fatalf("%v: %d rules", term, rules)
		}
	}
}

func TestP26Examples(t *testing.T) {
	for written, many := range map[string]int{"a": 1, "a!!!!!!!!": 1, "aa&": 2, "ab|!": 2, "ab&c!|": 3, "abcde&&&&": 5} {
		if rules := impl.RulesIn(marksOf(written)); rules != many {
			t.Errorf("%s: %d rules", written, rules)
		}
	}
}

func TestP26Others(t *testing.T) {
	for _, term := range badTerms() {
		if rules := impl.RulesIn(term); rules != -1 {
			t.Errorf("%v, which is no term: %d rules", term, rules)
		}
	}
}

// TestP27 is for the texts of terms, which are read: no two terms have the same one.
func TestP27(t *testing.T) {
	for _, term := range allTerms() {
		before := slices.Clone(term)
		text := impl.TermText(term)
		if text != textBy(term) {
			t.Fatalf("%v: %q, not %q", term, text, textBy(term))
		}
		read, ok := impl.ReadTerm(text)
		if !ok || !slices.Equal(read, term) || !slices.Equal(term, before) {
			t.Fatalf("%q: %v, not %v, %v", text, read, term, ok)
		}
	}
}

func TestP27Examples(t *testing.T) {
	for written, text := range map[string]string{
		"a": "n*2", "ab&": "n*2&n/d", "ab|": "n*2|n/d", "a!": "!n*2", "a!!": "!!n*2", "a!!!!!!!!": "!!!!!!!!n*2",
		"ab|c|": "n*2|n/d|r>2", "abc||": "n*2|(n/d|r>2)", "ab&c&": "n*2&n/d&r>2", "abc&&": "n*2&(n/d&r>2)",
		"ab|c&": "(n*2|n/d)&r>2", "abc|&": "n*2&(n/d|r>2)", "ab&c|": "n*2&n/d|r>2", "abc&|": "n*2|n/d&r>2",
		"ab|!": "!(n*2|n/d)", "ab&!": "!(n*2&n/d)", "a!b&": "!n*2&n/d", "ab!&": "n*2&!n/d", "ab|!!": "!!(n*2|n/d)", "ab&!!c|": "!!(n*2&n/d)|r>2",
		"ab|cd|&": "(n*2|n/d)&(r>2|d^4)", "ab|cd||": "n*2|n/d|(r>2|d^4)", "ab&cd&&": "n*2&n/d&(r>2&d^4)", "ab&cd&|": "n*2&n/d|r>2&d^4",
		"abcde||||": "n*2|(n/d|(r>2|(d^4|d<0)))", "abcde&|&|": "n*2|n/d&(r>2|d^4&d<0)", "ab!|!c&": "!(n*2|!n/d)&r>2",
	} {
		term := marksOf(written)
		if got := impl.TermText(term); got != text {
			t.Errorf("%s: %q, not %q", written, got, text)
		}
		if read, ok := impl.ReadTerm(text); !ok || !slices.Equal(read, term) {
			t.Errorf("%q: %v, %v", text, read, ok)
		}
	}
}

func TestP27Others(t *testing.T) {
	for _, term := range badTerms() {
		if text := impl.TermText(term); text != "" {
			t.Errorf("%v, which is no term: %q", term, text)
		}
	}
}

// TestP28 tries all texts of at most 7 signs and rules: just those of terms are read.
func TestP28(t *testing.T) {
	terms := map[string][]impl.Mark{}
	for _, term := range allTerms() {
		for at := range term {
			if term[at].Kind == impl.MarkRule {
				term[at].Its = rowOf("n", 2)
			}
		}
		text := textBy(term)
		if terms[text] != nil {
			t.Fatalf("%q is the text of two terms", text)
		}
		terms[text] = term
	}
	texts := []string{""}
	for range 7 {
		var longer []string
		for _, text := range texts {
			checkRead(t, text, terms[text])
			for _, sign := range []string{"n*2", "!", "&", "|", "(", ")"} {
				longer = append(longer, text+sign)
			}
		}
		texts = longer
	}
	for _, text := range texts {
		checkRead(t, text, terms[text])
	}
}

// checkRead checks that a text is read as a term, or refused if that is nil; what is read is written as before, and refused in brackets.
func checkRead(t *testing.T, text string, term []impl.Mark) {
	t.Helper()
	read, ok := impl.ReadTerm(text)
	if ok != (term != nil) || !slices.Equal(read, term) {
		t.Fatalf("%q: %v, not %v, %v", text, read, term, ok)
	}
	if !ok {
		return
	}
	if written := impl.TermText(read); written != text {
		t.Fatalf("%q is written %q", text, written)
	}
	if held, ok := impl.ReadTerm("(" + text + ")"); ok || len(held) > 0 {
		t.Fatalf("%q is read in brackets: %v", text, held)
	}
}

// TestP28Changed changes texts of terms byte by byte.
func TestP28Changed(t *testing.T) {
	for at, term := range allTerms() {
		if at%11 > 0 && len(term) > 3 {
			continue
		}
		text := textBy(term)
		var changed []string
		for place := range len(text) + 1 {
			for _, sign := range strings.Split("!&|() n0/", "") {
				changed = append(changed, text[:place]+sign+text[place:])
				if place < len(text) {
					changed = append(changed, text[:place]+sign+text[place+1:])
				}
			}
			if place < len(text) {
				changed = append(changed, text[:place]+text[place+1:])
			}
		}
		for _, s := range changed {
			var right []impl.Mark
			for _, one := range termsBy(s) {
				if right != nil {
					t.Fatalf("%q is the text of %v and %v", s, right, one)
				}
				right = one
			}
			if len(right) > impl.MaxMarks {
				right = nil
			}
			checkRead(t, s, right)
		}
	}
}

func TestP28Others(t *testing.T) {
	for _, text := range []string{
		"", " ", "n", "n*", "n*5", "n/x", "r>0", "n*2 ", " n*2", "n*2\n", "\x00", "\xff", "n*2&", "&n*2", "n*2|", "|n*2", "!", "n*2!", "!&n*2", "n*2!n*2", "n*2n*2", "n*2&&n*2", "n*2||n*2", "n*2 & n/d", "n*2&|n*2",
		"()", "(", ")", "(n*2", "n*2)", "(n*2)", "((n*2))", "!(n*2)", "!(!n*2)", "(!n*2)", "!((n*2|n/d))", "(n*2&n/d)", "(n*2|n/d)", "(n*2|n/d)|r>2", "(n*2&n/d)&r>2", "(n*2&n/d)|r>2", "n*2|(n/d&r>2)", "n*2|(!n/d)", "n*2&(!n/d)", "n*2&(n/d)", "(n*2)&n/d",
		"n*2)(n*2", "(n*2|n/d))&r>2", "((n*2|n/d)&r>2", "!!!!!!!!!n*2", "n*2&n*2&n*2&n*2&n*2&n*2", "!n*2&n*2&n*2&n*2&n*2",
		strings.Repeat("!", 97) + "n*2", strings.Repeat("!", 98) + "n*2", strings.Repeat("(", 100), strings.Repeat("(", 49) + "n*2" + strings.Repeat(")", 48),
		strings.Repeat("n*2&", 24) + "n*2", strings.Repeat("n*2|", 25) + "n*2", strings.Repeat("!", 1<<22), strings.Repeat("(", 1<<22), "n*2" + strings.Repeat(" ", 98),
	} {
		if term, ok := impl.ReadTerm(text); ok || len(term) > 0 {
			t.Errorf("%.200q: %v, %v", text, term, ok)
		}
	}
}

func TestP28NewMemory(t *testing.T) {
	first, _ := impl.ReadTerm("n*2|n/d&r>2")
	second, _ := impl.ReadTerm("n*2|n/d&r>2")
	right := slices.Clone(second)
	first = first[:cap(first)]
	for at := range first {
		first[at] = impl.Mark{Kind: 7}
	}
	third, _ := impl.ReadTerm("n*2|n/d&r>2")
	if !slices.Equal(second, right) || !slices.Equal(third, right) {
		t.Errorf("%v, %v", second, third)
	}
}

// TestTermsAreNotChanged checks that what is asked of a term leaves it, and what is behind it, as it was.
func TestTermsAreNotChanged(t *testing.T) {
	whole := marksOf("ab|c&!de&")
	before := slices.Clone(whole)
	term := whole[:6]
	impl.TermOk(term)
	impl.RulesIn(term)
	impl.TermText(term)
	if !slices.Equal(whole, before) {
		t.Errorf("%v", whole)
	}
}
