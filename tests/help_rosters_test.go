package tests

import (
	"slices"
	"strings"

	"loop.example/dutyrosters/impl"
)

// needsOf returns needs of so many day shifts and so many night shifts.
func needsOf(light int, dark int) impl.Needs {
	return impl.Needs{Light: light, Dark: dark}
}

// allNeeds returns all needs, written out.
func allNeeds() []impl.Needs {
	return []impl.Needs{
		{}, needsOf(0, 1), needsOf(1, 0), needsOf(0, 2), needsOf(1, 1), needsOf(2, 0), needsOf(0, 3), needsOf(1, 2), needsOf(2, 1), needsOf(3, 0),
		needsOf(0, 4), needsOf(1, 3), needsOf(2, 2), needsOf(3, 1), needsOf(4, 0),
	}
}

// badNeeds returns what are no needs: too many, less than 0, and such that come round to a small number if they are put together.
func badNeeds() []impl.Needs {
	least, most := -1<<63, 1<<63-1
	return []impl.Needs{
		needsOf(-1, 0), needsOf(0, -1), needsOf(-1, -1), needsOf(-1, 1), needsOf(1, -1), needsOf(-1, 5), needsOf(5, -1), needsOf(-2, 4), needsOf(4, -2),
		needsOf(5, 0), needsOf(0, 5), needsOf(4, 1), needsOf(1, 4), needsOf(3, 2), needsOf(2, 3), needsOf(4, 4), needsOf(100, 0), needsOf(0, 100),
		needsOf(most, 0), needsOf(0, most), needsOf(most, most), needsOf(most, 1), needsOf(1, most), needsOf(most, 4), needsOf(1<<62, 1<<62), needsOf(1<<32, 0), needsOf(0, 1<<32),
		needsOf(least, 0), needsOf(0, least), needsOf(least, least), needsOf(least, most), needsOf(most, least), needsOf(least, -1), needsOf(most-1, 2), needsOf(2, most-1), needsOf(4, most-3), needsOf(most-3, 4),
	}
}

// rostersOf returns all rosters of so many rows and days.
func rostersOf(people int, days int) [][]string {
	rosters := [][]string{nil}
	for range people {
		var more [][]string
		for _, rows := range rosters {
			for _, word := range wordsOf(days) {
				more = append(more, append(slices.Clone(rows), word))
			}
		}
		rosters = more
	}
	return rosters
}

// smallRosters returns all rosters of each number of rows up to a small number of days.
func smallRosters() [][]string {
	var rosters [][]string
	for fewer, most := range []int{4, 2, 2, 1} {
		for days := range most + 1 {
			rosters = append(rosters, rostersOf(fewer+1, days)...)
		}
	}
	return rosters
}

// drawnRow draws a word of so many letters.
func (d *drawing) drawnRow(days int) string {
	row := ""
	for range days {
		letter := d.below(3)
		row += letters[letter : letter+1]
	}
	return row
}

// drawnRosters draws so many rosters of each number of rows and of days.
func drawnRosters(many int) [][]string {
	d := &drawing{seed: uint64(1000 + many)}
	var rosters [][]string
	for people := 1; people <= impl.MaxRows; people++ {
		for days := range impl.MaxDays + 1 {
			for range many {
				var rows []string
				for range people {
					rows = append(rows, d.drawnRow(days))
				}
				rosters = append(rosters, rows)
			}
		}
	}
	return rosters
}

// coveringRosters draws rosters of so many rows that cover needs: on each day the letters that are needed are in drawn order. It has none if there are too few rows.
func coveringRosters(many int, people int, needs impl.Needs) [][]string {
	d := &drawing{seed: uint64(100*people + 10*needs.Light + needs.Dark)}
	rest := people - needs.Light - needs.Dark
	if rest < 0 {
		return nil
	}
	needed := strings.Repeat("d", needs.Light) + strings.Repeat("n", needs.Dark) + strings.Repeat("r", rest)
	var rosters [][]string
	for at := range many {
		rows := make([]string, people)
		for range 1 + at*5%impl.MaxDays {
			left := needed
			for row := range rows {
				letter := d.below(len(left))
				rows[row] += left[letter : letter+1]
				left = left[:letter] + left[letter+1:]
			}
		}
		rosters = append(rosters, rows)
	}
	return rosters
}

// someRosters returns rosters of all sizes, among them some that cover each needs.
func someRosters() [][]string {
	rosters := append(smallRosters(), drawnRosters(4)...)
	for _, needs := range allNeeds() {
		for people := 1; people <= impl.MaxRows; people++ {
			rosters = append(rosters, coveringRosters(6, people, needs)...)
		}
	}
	return rosters
}

// badRosters returns what are no rosters: no rows or too many, rows of different lengths or of too many days, and rows that are no words, in each place.
func badRosters() [][]string {
	long := func(days int) string { return strings.Repeat("rdn", days)[:days] }
	rosters := [][]string{
		nil, {}, {"", "", "", "", ""}, {"r", "r", "r", "r", "r"}, make([]string, 100), {"", "r"}, {"r", ""}, {"r", "rr"}, {"rd", "r"}, {"rdn", "rdn", "rd", "rdn"}, {"rdn", "rd", "n"},
		{long(13)}, {long(14)}, {long(15)}, {long(100)}, {long(13), long(13)}, {long(12), long(13)}, {long(13), long(12)}, {long(14), long(14), long(14), long(14)}, {"", long(13)},
		{"x"}, {"R"}, {"r "}, {"\x00"}, {"\xff"}, {"ř"}, {"ř", "rr"}, {"rr", "nñ"}, {"rdx"}, {"xxx", "xxx"}, {long(11) + "x"}, {long(12) + "x"},
	}
	for people := 2; people <= impl.MaxRows; people++ {
		for at := range people {
			for _, word := range []string{"", "r", "rd", "rdnr", "rdx", "xdn", "RDN", "r n", "rd\n", "rd\x00", long(13), long(14)} {
				rows := slices.Repeat([]string{"rdn"}, people)
				rows[at] = word
				rosters = append(rosters, rows)
			}
		}
	}
	return rosters
}

// columnsOf returns the letters of each day of a roster, in the order of rows.
func columnsOf(rows []string) []string {
	columns := make([]string, len(rows[0]))
	for _, row := range rows {
		for day, letter := range row {
			columns[day] += string(letter)
		}
	}
	return columns
}

// coversBy reports whether each day of a roster has just so many d and n as needs say.
func coversBy(rows []string, needs impl.Needs) bool {
	return !slices.ContainsFunc(columnsOf(rows), func(column string) bool {
		return strings.Count(column, "d") != needs.Light || strings.Count(column, "n") != needs.Dark
	})
}

// exchangedBy returns a roster with the rows at two places exchanged.
func exchangedBy(rows []string, a int, b int) []string {
	exchanged := slices.Clone(rows)
	exchanged[a] = rows[b]
	exchanged[b] = rows[a]
	return exchanged
}

// exchangesOf returns all rosters that come from a roster by exchanging two rows.
func exchangesOf(rows []string) [][]string {
	var all [][]string
	for a := range rows {
		for b := range a {
			all = append(all, exchangedBy(rows, a, b))
		}
	}
	return all
}

// mayCover reports whether rows, of so many people in all, have on no day more of a letter than is needed.
func mayCover(rows []string, people int, needs impl.Needs) bool {
	return !slices.ContainsFunc(columnsOf(rows), func(column string) bool {
		return strings.Count(column, "d") > needs.Light || strings.Count(column, "n") > needs.Dark || strings.Count(column, "r") > people-needs.Light-needs.Dark
	})
}

// rostersBy returns all rosters of so many people that cover needs, of rows that are among these words, in any order: they are found row by row, and not day by day.
func rostersBy(words []string, people int, needs impl.Needs) [][]string {
	rosters := [][]string{nil}
	for range people {
		var more [][]string
		for _, rows := range rosters {
			for _, word := range words {
				if longer := append(slices.Clone(rows), word); mayCover(longer, people, needs) {
					more = append(more, longer)
				}
			}
		}
		rosters = more
	}
	return slices.DeleteFunc(rosters, func(rows []string) bool {
		return !coversBy(rows, needs)
	})
}

// firstBy returns the first one of rosters of one size, by the letters of the first day that differs, of its first row that differs; nil if there is none.
func firstBy(rosters [][]string) []string {
	if len(rosters) == 0 {
		return nil
	}
	return slices.MinFunc(rosters, func(a []string, b []string) int {
		return wordOrder(strings.Join(columnsOf(a), ""), strings.Join(columnsOf(b), ""))
	})
}

// keptWords returns all words of so many letters that keep a term.
func keptWords(term []impl.Mark, letters int) []string {
	return slices.DeleteFunc(wordsOf(letters), func(word string) bool {
		return !keepsTermBy(term, word)
	})
}

// rosterTerms returns terms for rosters: plain ones, some that no word or all words keep, and some that have no machine.
func rosterTerms() [][]impl.Mark {
	terms := termsIn("n*1&n/d", "n*2", "n*0", "r^2", "d^3", "n/d", "r/r", "d<1", "n<0", "r>1", "d>1", "n>2", "!r*1", "!n/d", "d^2&n^2", "d>1&n>1", "n*1|d>2", "!(n*1&n/d)", "r>1&d>1&n>1", "r<2&d<2", "(n^2|d^2)&r>1")
	return slices.Concat(terms, keptByNone(), keptByAll(), largeTerms())
}
