package tests

import (
	"slices"
	"strings"
	"testing"

	"loop.example/dutyrosters/impl"
)

func TestRosterBounds(t *testing.T) {
	if impl.MaxRows != 4 || impl.MaxDays != 12 {
		t.Fatal(impl.MaxRows, impl.MaxDays)
	}
}

// TestP62 is for rosters, and without the last row if there are two or more.
func TestP62(t *testing.T) {
	t.Parallel()
	if !impl.RosterOk([]string{""}) {
		t.Error("one empty row is no roster")
	}
	for _, rows := range someRosters() {
		if !impl.RosterOk(rows) {
			t.Fatalf("%q is no roster", rows)
		}
		if ok := impl.RosterOk(rows[:len(rows)-1]); ok != (len(rows) > 1) {
			t.Fatalf("%q: %v", rows[:len(rows)-1], ok)
		}
	}
}

// TestP62Bounds is for each number of rows and of days, and for each row that has a letter more or less.
func TestP62Bounds(t *testing.T) {
	for people := range 9 {
		for days := range 20 {
			right := people >= 1 && people <= 4 && days <= 12
			rows := slices.Repeat([]string{strings.Repeat("n", days)}, people)
			if ok := impl.RosterOk(rows); ok != right {
				t.Errorf("%d rows, %d days: %v", people, days, ok)
			}
			for at := range rows {
				more, fewer := slices.Clone(rows), slices.Clone(rows)
				more[at] += "r"
				if ok := impl.RosterOk(more); ok != (people == 1 && days < 12) {
					t.Errorf("%q: %v", more, ok)
				}
				if days == 0 {
					continue
				}
				fewer[at] = fewer[at][1:]
				if ok := impl.RosterOk(fewer); ok != (people == 1 && days < 14) {
					t.Errorf("%q: %v", fewer, ok)
				}
			}
		}
	}
}

// TestP62Others is for what are no rosters, and for each other byte in each place.
func TestP62Others(t *testing.T) {
	for _, rows := range badRosters() {
		if impl.RosterOk(rows) {
			t.Errorf("%q is a roster", rows)
		}
	}
	for at := range 4 {
		for day := range 3 {
			for other := range 256 {
				rows := []string{"rdn", "dnr", "nrd", "rrr"}
				rows[at] = rows[at][:day] + string([]byte{byte(other)}) + rows[at][day+1:]
				if ok := impl.RosterOk(rows); ok != strings.Contains(letters, string(rune(other))) {
					t.Errorf("%q: %v", rows, ok)
				}
			}
		}
	}
}

// TestP63 is for needs, and for both exchanged.
func TestP63(t *testing.T) {
	if !impl.NeedsOk(impl.Needs{}) {
		t.Error("none of both are no needs")
	}
	good := allNeeds()
	for light := -12; light < 20; light++ {
		for dark := -12; dark < 20; dark++ {
			needs := needsOf(light, dark)
			if ok := impl.NeedsOk(needs); ok != slices.Contains(good, needs) || ok != impl.NeedsOk(needsOf(dark, light)) {
				t.Errorf("%v: %v", needs, ok)
			}
		}
	}
	for _, needs := range badNeeds() {
		if impl.NeedsOk(needs) || impl.NeedsOk(needsOf(needs.Dark, needs.Light)) {
			t.Errorf("%v, or exchanged, are needs", needs)
		}
	}
}

// TestP64 is for the letters of each day, which are over all days all letters.
func TestP64(t *testing.T) {
	t.Parallel()
	for _, rows := range someRosters() {
		again := make([]string, len(rows))
		for day, column := range columnsOf(rows) {
			got := impl.DayOf(rows, day)
			if got != column || len(got) != len(rows) {
				t.Fatalf("%q, day %d: %q", rows, day, got)
			}
			for row := range rows {
				again[row] += got[row : row+1]
			}
		}
		if !slices.Equal(again, rows) {
			t.Fatalf("%q: over all days %q", rows, again)
		}
	}
}

func TestP64Examples(t *testing.T) {
	for _, told := range []struct {
		rows string
		day  int
		want string
	}{
		{"dnr rdn nrd", 0, "drn"}, {"dnr rdn nrd", 1, "ndr"}, {"dnr rdn nrd", 2, "rnd"}, {"dnr rdn nrd", 3, ""}, {"dnr rdn nrd", -1, ""},
		{"rdn", 0, "r"}, {"rdn", 1, "d"}, {"rdn", 2, "n"}, {"rr rr dd dd", 1, "rrdd"}, {"n n n n", 0, "nnnn"}, {"n n n n", 1, ""},
		{"rrrrrrrrrrrd nnnnnnnnnnnr", 11, "dr"}, {"rrrrrrrrrrrd nnnnnnnnnnnr", 12, ""}, {"r rr", 0, ""}, {"x r", 1, ""},
	} {
		if got := impl.DayOf(strings.Split(told.rows, " "), told.day); got != told.want {
			t.Errorf("%q, day %d: %q, not %q", told.rows, told.day, got, told.want)
		}
	}
}

// TestP64Others is for days that are not there, rosters of no days, and what are no rosters.
func TestP64Others(t *testing.T) {
	days := []int{-1 << 63, -100, -12, -2, -1, 12, 13, 14, 100, 1 << 32, 1 << 62, 1<<63 - 1}
	for _, rows := range someRosters() {
		for _, day := range append(days, len(rows[0])) {
			if got := impl.DayOf(rows, day); got != "" {
				t.Fatalf("%q, day %d: %q", rows, day, got)
			}
		}
	}
	for _, rows := range badRosters() {
		for day := -2; day < 20; day++ {
			if got := impl.DayOf(rows, day); got != "" {
				t.Errorf("%q, day %d: %q", rows, day, got)
			}
		}
	}
}

// wrongCover says what is wrong with whether a roster covers needs, or "".
func wrongCover(rows []string, needs impl.Needs) string {
	covers := impl.CoverOk(rows, needs)
	if covers != coversBy(rows, needs) {
		return "whether it covers them"
	}
	for _, exchanged := range exchangesOf(rows) {
		if impl.CoverOk(exchanged, needs) != covers {
			return "with rows exchanged"
		}
	}
	days, light, dark := len(rows[0]), 0, 0
	for _, row := range rows {
		light += impl.CountOf(row, "d")
		dark += impl.CountOf(row, "n")
	}
	if covers && (light != days*needs.Light || dark != days*needs.Dark) {
		return "its letters in all"
	}
	return ""
}

// TestP65 is for rosters and all needs: those with as many of a letter in all, but not on each day, are among them.
func TestP65(t *testing.T) {
	t.Parallel()
	covering := map[impl.Needs]int{}
	for _, rows := range someRosters() {
		for _, needs := range allNeeds() {
			if wrong := wrongCover(rows, needs); wrong != "" {
				t.Fatalf("%q, %v: %s", rows, needs, wrong)
			}
			if len(rows[0]) > 0 && impl.CoverOk(rows, needs) {
				covering[needs]++
			}
		}
	}
	for _, needs := range allNeeds() {
		if covering[needs] < 6 {
			t.Errorf("just %d rosters with days cover %v", covering[needs], needs)
		}
	}
}

// TestP65NoDays is for rosters of no days, which cover all needs, even such as the rows could not on any day.
func TestP65NoDays(t *testing.T) {
	for people := 1; people <= impl.MaxRows; people++ {
		rows := make([]string, people)
		for _, needs := range allNeeds() {
			if !impl.CoverOk(rows, needs) {
				t.Errorf("%q does not cover %v", rows, needs)
			}
		}
		for _, needs := range badNeeds() {
			if impl.CoverOk(rows, needs) {
				t.Errorf("%q covers %v", rows, needs)
			}
		}
	}
}

func TestP65Examples(t *testing.T) {
	for _, told := range []struct {
		rows   string
		needs  impl.Needs
		covers bool
	}{
		{"dnr rdn nrd", needsOf(1, 1), true}, {"dnr rdn nrd", needsOf(1, 0), false}, {"dnr rdn nrd", needsOf(0, 1), false}, {"dnr rdn nrd", needsOf(0, 0), false}, {"dnr rdn nrd", needsOf(2, 1), false}, {"dnr rdn nrd", needsOf(1, 2), false},
		{"rrr", needsOf(0, 0), true}, {"rrr rrr", needsOf(0, 0), true}, {"rrr rrr", needsOf(1, 0), false}, {"ddd", needsOf(1, 0), true}, {"ddd", needsOf(0, 1), false}, {"nnn", needsOf(0, 1), true}, {"nnn", needsOf(1, 0), false},
		// As many in all, but not on each day.
		{"rd rd", needsOf(1, 0), false}, {"rd dr", needsOf(1, 0), true}, {"rn rn", needsOf(0, 1), false}, {"rn nr", needsOf(0, 1), true}, {"dn rr", needsOf(1, 1), false}, {"dn nd", needsOf(1, 1), true}, {"dd nn", needsOf(1, 1), true},
		// All but the last day, or but the first one, is covered.
		{"ddr rrr", needsOf(1, 0), false}, {"rdd rrr", needsOf(1, 0), false}, {"ddd rrd", needsOf(1, 0), false}, {"ddn rrr", needsOf(1, 0), false}, {"ddd nrr", needsOf(1, 0), false},
		{"d d d d", needsOf(4, 0), true}, {"n n n n", needsOf(0, 4), true}, {"d n d n", needsOf(2, 2), true}, {"d n d n", needsOf(3, 1), false}, {"d n d d", needsOf(3, 1), true},
		// More is needed than there are rows.
		{"d", needsOf(2, 0), false}, {"d", needsOf(1, 1), false}, {"dd nn dd", needsOf(2, 2), false}, {"dd dd dd", needsOf(4, 0), false},
	} {
		if covers := impl.CoverOk(strings.Split(told.rows, " "), told.needs); covers != told.covers {
			t.Errorf("%q, %v: %v", told.rows, told.needs, covers)
		}
	}
}

// TestP66 is for rosters and terms, each row alone, and with rows exchanged.
func TestP66(t *testing.T) {
	t.Parallel()
	terms := rosterTerms()
	for _, rows := range someRosters() {
		for _, term := range terms {
			right := !slices.ContainsFunc(rows, func(row string) bool { return !impl.KeepsTerm(term, row) })
			if keeps := impl.KeepsAll(term, rows); keeps != right {
				t.Fatalf("%q, %q: %v", rows, impl.TermText(term), keeps)
			}
			for _, exchanged := range exchangesOf(rows) {
				if impl.KeepsAll(term, exchanged) != right {
					t.Fatalf("%q, %q: not %v", exchanged, impl.TermText(term), right)
				}
			}
		}
	}
}

// TestP66Examples has terms without a machine, too, which are kept as others are.
func TestP66Examples(t *testing.T) {
	for _, told := range []struct {
		text  string
		rows  string
		keeps bool
	}{
		{"n*1&n/d", "dnr rdn nrd", true}, {"n*1&n/d", "nd", false}, {"n*1&n/d", "dnr ndr nrd", false}, {"n*1&n/d", "nnr rdn nrd", false}, {"n*1&n/d", "dnr rdn rnd", false},
		{"n*2", "nnn", false}, {"n*2", "nnr rnn", true}, {"n*2", "nnr rnn nnn", false}, {"d>1", "drr rdr rrd", true}, {"d>1", "drr rrr rrd", false}, {"r>1", "r r r r", true}, {"r>1", "r r r d", false}, {"r>1", "d r r r", false},
		{"r<5&d<5&n<1", "rdnrdr", true}, {"r<5&d<5&n<1", "rdnrdn", false}, {"r>5&d>5&n>5", "rdnrdnrdnrdn", false}, {"r<5|d<5|n<5", "rdnrdnrdnrdn nnnnnnnnnnnn", true},
	} {
		if keeps := impl.KeepsAll(termIn(told.text), strings.Split(told.rows, " ")); keeps != told.keeps {
			t.Errorf("%q, %q: %v", told.text, told.rows, keeps)
		}
	}
}

// TestP66NoDays is for rosters of no days, which keep just what the empty word keeps.
func TestP66NoDays(t *testing.T) {
	for people := 1; people <= impl.MaxRows; people++ {
		for _, term := range rosterTerms() {
			right := keepsTermBy(term, "")
			if keeps := impl.KeepsAll(term, make([]string, people)); keeps != right {
				t.Errorf("%d empty rows, %q: %v", people, impl.TermText(term), keeps)
			}
		}
	}
}

// TestP66P67Others is for what are no terms, no rosters and no needs.
func TestP66P67Others(t *testing.T) {
	rows := []string{"dnr", "rdn", "nrd"}
	for _, term := range badTerms() {
		for _, rows := range [][]string{rows, {""}, {"", ""}, {"rrr"}, {"r", "r", "r", "r"}} {
			if impl.KeepsAll(term, rows) || impl.RightOk(term, rows, needsOf(1, 1)) || impl.RightOk(term, rows, needsOf(0, 0)) {
				t.Errorf("%q keeps %v", rows, term)
			}
		}
	}
	for _, bad := range badRosters() {
		for _, term := range rosterTerms() {
			if impl.KeepsAll(term, bad) {
				t.Errorf("%q keeps %q", bad, impl.TermText(term))
			}
			for _, needs := range allNeeds() {
				if impl.CoverOk(bad, needs) || impl.RightOk(term, bad, needs) {
					t.Errorf("%q, %q, %v", bad, impl.TermText(term), needs)
				}
			}
		}
	}
	for _, needs := range badNeeds() {
		for _, term := range keptByAll() {
			if impl.CoverOk(rows, needs) || impl.RightOk(term, rows, needs) || impl.RightOk(term, []string{""}, needs) {
				t.Errorf("%q covers %v", rows, needs)
			}
		}
	}
}

// TestP67 is for right rosters, and with rows exchanged.
func TestP67(t *testing.T) {
	t.Parallel()
	terms := rosterTerms()
	right := 0
	for at, rows := range someRosters() {
		for further, needs := range allNeeds() {
			term := terms[(at+further)%len(terms)]
			ok := impl.RightOk(term, rows, needs)
			if ok != (impl.KeepsAll(term, rows) && impl.CoverOk(rows, needs)) {
				t.Fatalf("%q, %q, %v: %v", impl.TermText(term), rows, needs, ok)
			}
			for _, exchanged := range exchangesOf(rows) {
				if impl.RightOk(term, exchanged, needs) != ok {
					t.Fatalf("%q, %q, %v: not %v", impl.TermText(term), exchanged, needs, ok)
				}
			}
			if ok && len(rows[0]) > 0 {
				right++
			}
		}
	}
	if right < 100 {
		t.Errorf("just %d rosters are right", right)
	}
}

func TestP67Examples(t *testing.T) {
	for _, told := range []struct {
		text  string
		rows  string
		needs impl.Needs
		right bool
	}{
		{"n*1&n/d", "dnr rdn nrd", needsOf(1, 1), true}, {"n*1&n/d", "dnr rdn nrd", needsOf(1, 0), false}, {"n*1&n/d", "nnr ddn rrd", needsOf(1, 1), false}, {"n*1&n/d", "nnr ddn rrd", needsOf(1, 0), false},
		{"n*1", "", needsOf(0, 0), true}, {"n*1", "", needsOf(4, 0), true}, {"r>1", "", needsOf(0, 0), false}, {"n>1", "n", needsOf(0, 1), true}, {"n>1", "n r", needsOf(0, 1), false},
		// Twelve days, and a term without a machine.
		{"r<5&d<5&n<1", "rrrrrd rrrrrd", needsOf(0, 0), false}, {"r<5|d<5|n<5", "rrrrrrrrrrrr", needsOf(0, 0), true}, {"r<5|d<5|n<5", "dddddddddddd nnnnnnnnnnnn", needsOf(1, 1), true},
	} {
		if right := impl.RightOk(termIn(told.text), strings.Split(told.rows, " "), told.needs); right != told.right {
			t.Errorf("%q, %q, %v: %v", told.text, told.rows, told.needs, right)
		}
	}
}

// TestP68 is for rows exchanged, and again.
func TestP68(t *testing.T) {
	t.Parallel()
	places := []int{-1 << 63, -100, -2, -1, 0, 1, 2, 3, 4, 5, 100, 1 << 32, 1<<63 - 1}
	for _, rows := range someRosters() {
		for _, a := range places {
			for _, b := range places {
				exchanged, ok := impl.RowsExchanged(rows, a, b)
				if a < 0 || b < 0 || a >= len(rows) || b >= len(rows) || a == b {
					if exchanged != nil || ok {
						t.Fatalf("%q, %d and %d: %q, %v", rows, a, b, exchanged, ok)
					}
					continue
				}
				if !ok || !slices.Equal(exchanged, exchangedBy(rows, a, b)) || !impl.RosterOk(exchanged) {
					t.Fatalf("%q, %d and %d: %q, %v", rows, a, b, exchanged, ok)
				}
				if again, ok := impl.RowsExchanged(exchanged, a, b); !ok || !slices.Equal(again, rows) {
					t.Fatalf("%q, %d and %d: again %q, %v", rows, a, b, again, ok)
				}
			}
		}
	}
}

// TestP68Examples has empty rows, too, which are exchanged as others are.
func TestP68Examples(t *testing.T) {
	for _, told := range []struct {
		rows string
		a    int
		b    int
		want string
	}{
		{"dnr rdn nrd", 0, 2, "nrd rdn dnr"}, {"dnr rdn nrd", 2, 0, "nrd rdn dnr"}, {"dnr rdn nrd", 1, 2, "dnr nrd rdn"}, {"r d n n", 0, 3, "n d n r"}, {"r d n n", 2, 3, "r d n n"}, {" ", 0, 1, " "},
	} {
		got, ok := impl.RowsExchanged(strings.Split(told.rows, " "), told.a, told.b)
		if !ok || strings.Join(got, " ") != told.want || len(got) != 1+strings.Count(told.want, " ") {
			t.Errorf("%q, %d and %d: %q, %v", told.rows, told.a, told.b, got, ok)
		}
	}
}

// TestP68Others is for what are no rosters.
func TestP68Others(t *testing.T) {
	for _, rows := range badRosters() {
		for a := -1; a < 6; a++ {
			for b := -1; b < 6; b++ {
				if exchanged, ok := impl.RowsExchanged(rows, a, b); exchanged != nil || ok {
					t.Errorf("%q, %d and %d: %q, %v", rows, a, b, exchanged, ok)
				}
			}
		}
	}
}
