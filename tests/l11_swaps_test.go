package tests

import (
	"slices"
	"strings"
	"testing"

	"loop.example/dutyrosters/impl"
)

// wrongSwap says what is wrong with a swap of two rows on a day, all of which are there, or "".
func wrongSwap(rows []string, day int, a int, b int) string {
	swapped, ok := impl.SwapAt(rows, day, a, b)
	if !ok || !slices.Equal(swapped, swappedBy(rows, day, a, b)) || !impl.RosterOk(swapped) {
		return "the roster"
	}
	for at := range rows[0] {
		for _, letter := range eachLetter() {
			if impl.CountOf(impl.DayOf(swapped, at), letter) != impl.CountOf(impl.DayOf(rows, at), letter) {
				return "how often each letter is on a day"
			}
		}
	}
	if again, ok := impl.SwapAt(swapped, day, a, b); !ok || !slices.Equal(again, rows) {
		return "swapped again"
	}
	right := 1
	if rows[a][day] == rows[b][day] {
		right = 0
	}
	if impl.SwapsBetween(rows, swapped) != right || impl.SwapsBetween(swapped, rows) != right {
		return "how many swaps it is"
	}
	return ""
}

// TestP71 is for all swaps of rosters of all sizes, those that change nothing among them.
func TestP71(t *testing.T) {
	t.Parallel()
	same, other := 0, 0
	for _, rows := range someRosters() {
		for day := range rows[0] {
			for a := range rows {
				for b := range rows {
					if a == b {
						continue
					}
					if wrong := wrongSwap(rows, day, a, b); wrong != "" {
						t.Fatalf("%q, day %d, %d and %d: %s", rows, day, a, b, wrong)
					}
					if rows[a][day] == rows[b][day] {
						same++
					} else {
						other++
					}
				}
			}
		}
	}
	if same < 1000 || other < 1000 {
		t.Errorf("just %d swaps change nothing, and %d change something", same, other)
	}
}

func TestP71Examples(t *testing.T) {
	for _, told := range []struct {
		rows string
		day  int
		a    int
		b    int
		want string
	}{
		{"dnr rdn nrd", 1, 0, 2, "drr rdn nnd"}, {"dnr rdn nrd", 1, 2, 0, "drr rdn nnd"}, {"dnr rdn nrd", 0, 0, 1, "rnr ddn nrd"}, {"dnr rdn nrd", 2, 1, 2, "dnr rdd nrn"},
		{"r d", 0, 0, 1, "d r"}, {"r d n n", 0, 3, 0, "n d n r"}, {"rrrrrrrrrrrd nnnnnnnnnnnr", 11, 0, 1, "rrrrrrrrrrrr nnnnnnnnnnnd"},
		// Swaps that change nothing: equal letters, and equal rows.
		{"dnr rnn nrd", 1, 0, 1, "dnr rnn nrd"}, {"r d n n", 0, 2, 3, "r d n n"}, {"rdn rdn", 0, 0, 1, "rdn rdn"}, {"rdn rdn", 2, 1, 0, "rdn rdn"}, {"rr rr rr rr", 1, 0, 3, "rr rr rr rr"},
	} {
		swapped, ok := impl.SwapAt(strings.Split(told.rows, " "), told.day, told.a, told.b)
		if !ok || strings.Join(swapped, " ") != told.want {
			t.Errorf("%q, day %d, %d and %d: %q, %v", told.rows, told.day, told.a, told.b, swapped, ok)
		}
	}
}

// checkNoSwap checks that there is no such swap.
func checkNoSwap(t *testing.T, rows []string, day int, a int, b int) {
	t.Helper()
	if swapped, ok := impl.SwapAt(rows, day, a, b); swapped != nil || ok {
		t.Fatalf("%q, day %d, %d and %d: %q, %v", rows, day, a, b, swapped, ok)
	}
}

// TestP71Others is for a row and itself, and for rows and days that are not there, also of rosters of no days.
func TestP71Others(t *testing.T) {
	t.Parallel()
	for _, rows := range someRosters() {
		for _, day := range append(badPlaces(), len(rows[0])) {
			for a := range rows {
				for b := range rows {
					checkNoSwap(t, rows, day, a, b)
				}
			}
		}
		for day := range rows[0] {
			for a := range rows {
				checkNoSwap(t, rows, day, a, a)
				for _, bad := range append(badPlaces(), len(rows), 4, 5) {
					checkNoSwap(t, rows, day, a, bad)
					checkNoSwap(t, rows, day, bad, a)
					checkNoSwap(t, rows, day, bad, bad)
				}
			}
		}
	}
}

// TestP71NoRosters is for what are no rosters.
func TestP71NoRosters(t *testing.T) {
	for _, rows := range badRosters() {
		for day := -1; day < 15; day++ {
			for a := -1; a < 5; a++ {
				for b := -1; b < 5; b++ {
					checkNoSwap(t, rows, day, a, b)
				}
			}
		}
	}
}

// nearestSwap returns the least number of swaps that a roster is away from another one after any one swap.
func nearestSwap(x []string, y []string) int {
	nearest := 1 << 30
	for day := range x[0] {
		for a := range x {
			for b := range a {
				swapped, _ := impl.SwapAt(x, day, a, b)
				nearest = min(nearest, impl.SwapsBetween(swapped, y))
			}
		}
	}
	return nearest
}

// wrongSwaps says what is wrong with how many swaps lead from a roster to another one with as many rows and days, or "".
func wrongSwaps(x []string, y []string) string {
	swaps := impl.SwapsBetween(x, y)
	switch {
	case swaps != swapsBy(x, y):
		return "how many there are"
	case (swaps == 0) != slices.Equal(x, y):
		return "none, but not for equal ones alone"
	case swaps != impl.SwapsBetween(y, x):
		return "both exchanged"
	case swaps > 0 && nearestSwap(x, y) != swaps-1:
		return "how near a swap leads"
	case swaps > impl.ChangesOf(x, y):
		return "more than letters that differ"
	}
	return ""
}

// TestP72 is for pairs of rosters with as many rows and days.
func TestP72(t *testing.T) {
	t.Parallel()
	many := map[int]int{}
	for _, pair := range rosterPairs() {
		if wrong := wrongSwaps(pair[0], pair[1]); wrong != "" {
			t.Fatalf("%q and %q: %d: %s", pair[0], pair[1], impl.SwapsBetween(pair[0], pair[1]), wrong)
		}
		many[impl.SwapsBetween(pair[0], pair[1])]++
	}
	for _, swaps := range []int{-1, 0, 1, 2, 3, 4, 5, 6} {
		if many[swaps] < 20 {
			t.Errorf("just %d pairs are %d swaps away", many[swaps], swaps)
		}
	}
}

// TestP72Whole is for all rosters to which swaps lead, on any day in any order: they are no nearer than day by day.
func TestP72Whole(t *testing.T) {
	for _, columns := range []string{"rdn rdn", "rdn ddn", "rrdn rdnn", "rrdd ddnn", "rdnr nnnd", "rd dn nr"} {
		people := strings.IndexByte(columns, ' ')
		days := strings.Count(columns, " ") + 1
		for other, swaps := range awayFrom(strings.ReplaceAll(columns, " ", ""), people) {
			var wanted []string
			for day := range days {
				wanted = append(wanted, other[day*people:(day+1)*people])
			}
			x, y := columnsOf(strings.Split(columns, " ")), columnsOf(wanted)
			if got := impl.SwapsBetween(x, y); got != swaps {
				t.Errorf("%q and %q: %d, not %d", x, y, got, swaps)
			}
		}
	}
}

// TestP72Thirds is for rosters on the way, by which it is no nearer.
func TestP72Thirds(t *testing.T) {
	t.Parallel()
	d := &drawing{seed: 172}
	for _, rows := range someRosters() {
		third, other := d.mixedDays(rows), d.mixedDays(rows)
		if straight, around := impl.SwapsBetween(rows, other), impl.SwapsBetween(rows, third)+impl.SwapsBetween(third, other); straight > around {
			t.Fatalf("%q and %q: %d, but by %q %d", rows, other, straight, third, around)
		}
	}
}

func TestP72P73Examples(t *testing.T) {
	for _, told := range []struct {
		x       string
		y       string
		swaps   int
		changes int
	}{
		{"dnr rdn nrd", "dnr rdn nrd", 0, 0}, {"dnr rdn nrd", "rnr ddn nrd", 1, 2}, {"dnr rdn nrd", "rnr ndn drd", 2, 3}, {"dnr rdn nrd", "dnr rdn rrd", -1, 1},
		{"", "", 0, 0}, {" ", " ", 0, 0}, {"   ", "   ", 0, 0}, {"r", "r", 0, 0}, {"r", "d", -1, 1}, {"rdn", "rdr", -1, 1}, {"rdnrdnrdnrdn", "dnrdnrdnrdnr", -1, 12},
		// Pairs, rings of three, and both on different days.
		{"r d", "d r", 1, 2}, {"r d r d", "d r d r", 2, 4}, {"r d n n", "d r n n", 1, 2}, {"r d n n", "d n r n", 2, 3}, {"r d n n", "n n r d", 2, 4}, {"r d n n", "n n d r", 2, 4}, {"r d n n", "d n n r", 2, 3}, {"r d n", "n r d", 2, 3}, {"r d n", "d n r", 2, 3},
		{"r r d n", "d n r r", 2, 4}, {"r r d n", "n d r r", 2, 4}, {"r r d n", "d r n r", 2, 3}, {"rr dd nn", "dn nr rd", 4, 6}, {"rr dd", "dd rr", 2, 4}, {"rrr ddd nnn rrr", "ddr rnd nrr rrn", 4, 7},
		{"rdnrdnrdnrdn dnrdnrdnrdnr", "dnrdnrdnrdnr rdnrdnrdnrdn", 12, 24}, {"rdnrdnrdnrdn dnrdnrdnrdnr nrdnrdnrdnrd", "dnrdnrdnrdnr nrdnrdnrdnrd rdnrdnrdnrdn", 24, 36},
		// As often in all, but not on each day; on the first day, or on the last one; one letter as often, but not the other ones.
		{"rd rd", "rd dr", -1, 2}, {"rd dr", "dr rd", 2, 4}, {"rdr rdd", "rdr ddr", -1, 2}, {"rr dd", "rr dn", -1, 1}, {"rr dd", "nr dd", -1, 1}, {"r d", "r n", -1, 1}, {"d d n", "d n n", -1, 1}, {"r r n", "r n n", -1, 1}, {"r d n", "d d n", -1, 1}, {"rd dr", "dd rd", -1, 3},
		{"rd nd", "dr", -1, -1}, {"r d", "r d n", -1, -1}, {"r d", "rr dd", -1, -1}, {"r d", "rd", -1, -1}, {"", " ", -1, -1}, {"", "r", -1, -1}, {"r r", " ", -1, -1},
	} {
		x, y := strings.Split(told.x, " "), strings.Split(told.y, " ")
		if swaps := impl.SwapsBetween(x, y); swaps != told.swaps {
			t.Errorf("%q and %q: %d swaps, not %d", x, y, swaps, told.swaps)
		}
		if changes := impl.ChangesOf(x, y); changes != told.changes {
			t.Errorf("%q and %q: %d changes, not %d", x, y, changes, told.changes)
		}
	}
}

// TestP72P73Others is for rosters of other days or rows, and for what are no rosters, on either side and on both.
func TestP72P73Others(t *testing.T) {
	t.Parallel()
	pairs := unlikePairs()
	for _, bad := range badRosters() {
		pairs = append(pairs, [2][]string{bad, bad}, [2][]string{bad, slices.Clone(bad)})
		for _, rows := range [][]string{{""}, {"", ""}, {"r"}, {"r", "r"}, {"rdn"}, {"rdn", "rdn"}, {"rdn", "rdn", "rdn"}, {"rdn", "rdn", "rdn", "rdn"}, {strings.Repeat("rdn", 4)}} {
			pairs = append(pairs, [2][]string{bad, rows}, [2][]string{rows, bad})
		}
	}
	for _, pair := range pairs {
		if swaps := impl.SwapsBetween(pair[0], pair[1]); swaps != -1 {
			t.Errorf("%q and %q: %d swaps", pair[0], pair[1], swaps)
		}
		if changes := impl.ChangesOf(pair[0], pair[1]); changes != -1 {
			t.Errorf("%q and %q: %d changes", pair[0], pair[1], changes)
		}
	}
}

// wrongChanges says what is wrong with how many letters of two rosters differ, with as many rows and days, or "".
func wrongChanges(x []string, y []string) string {
	changes := impl.ChangesOf(x, y)
	if changes != changesBy(x, y) || changes != impl.ChangesOf(y, x) {
		return "how many"
	}
	if (changes == 0) != slices.Equal(x, y) {
		return "none, but not for equal ones alone"
	}
	for day := range x[0] {
		for a := range x {
			for b := range a {
				third, _ := impl.SwapAt(x, day, a, b)
				if changes > impl.ChangesOf(x, third)+impl.ChangesOf(third, y) {
					return "more than over a third roster"
				}
			}
		}
	}
	return ""
}

// TestP73 is for pairs of rosters with as many rows and days.
func TestP73(t *testing.T) {
	t.Parallel()
	for _, pair := range rosterPairs() {
		if wrong := wrongChanges(pair[0], pair[1]); wrong != "" {
			t.Fatalf("%q and %q: %d: %s", pair[0], pair[1], impl.ChangesOf(pair[0], pair[1]), wrong)
		}
	}
}

// lettersInAll returns for each row how many of all letters it has, by its loads.
func lettersInAll(rows []string) []int {
	many := make([]int, len(rows))
	for _, letter := range eachLetter() {
		for row, load := range impl.LoadsOf(rows, letter) {
			many[row] += load
		}
	}
	return many
}

// wrongLoads says what is wrong with the loads of rows, or "".
func wrongLoads(rows []string) string {
	if !slices.Equal(lettersInAll(rows), slices.Repeat([]int{len(rows[0])}, len(rows))) {
		return "not all days"
	}
	for _, letter := range eachLetter() {
		loads := impl.LoadsOf(rows, letter)
		if !slices.Equal(loads, loadsBy(rows, letter)) {
			return "how often it has " + letter
		}
		for day := range rows[0] {
			for a := range rows {
				for b := range a {
					swapped, _ := impl.SwapAt(rows, day, a, b)
					after := impl.LoadsOf(swapped, letter)
					if len(after) != len(loads) || sumOf(after) != sumOf(loads) {
						return "the sum after a swap"
					}
				}
			}
		}
	}
	return ""
}

// TestP74 is for rosters of all sizes, and all their swaps.
func TestP74(t *testing.T) {
	t.Parallel()
	for _, rows := range someRosters() {
		if wrong := wrongLoads(rows); wrong != "" {
			t.Fatalf("%q: %s", rows, wrong)
		}
	}
}

func TestP74Examples(t *testing.T) {
	for _, told := range []struct {
		rows   string
		letter string
		loads  []int
	}{
		{"nnn rrd", "n", []int{3, 0}}, {"nnn rrd", "r", []int{0, 2}}, {"nnn rrd", "d", []int{0, 1}}, {"dnr rdn nrd", "d", []int{1, 1, 1}}, {"r d n n", "n", []int{0, 0, 1, 1}},
		{"", "r", []int{0}}, {"   ", "n", []int{0, 0, 0, 0}}, {"rrrrrrrrrrrr", "r", []int{12}}, {"rrrrrrrrrrrr", "d", []int{0}},
	} {
		if loads := impl.LoadsOf(strings.Split(told.rows, " "), told.letter); !slices.Equal(loads, told.loads) {
			t.Errorf("%q, %s: %v", told.rows, told.letter, loads)
		}
	}
}

// checkNoLoads checks that there are no loads of a letter, and no swap that makes them fairer.
func checkNoLoads(t *testing.T, rows []string, letter string) {
	t.Helper()
	if loads := impl.LoadsOf(rows, letter); len(loads) != 0 {
		t.Errorf("%q, %q: %v", rows, letter, loads)
	}
	checkNoneFairer(t, rows, letter)
}

// checkNoneFairer checks that no swap makes the loads of a letter fairer.
func checkNoneFairer(t *testing.T, rows []string, letter string) {
	t.Helper()
	if day, from, to, ok := impl.FairerSwap(rows, letter); day != -1 || from != -1 || to != -1 || ok {
		t.Errorf("%q, %q: day %d, %d and %d, %v", rows, letter, day, from, to, ok)
	}
}

// TestP74P75Others is for what are no letters and no rosters.
func TestP74P75Others(t *testing.T) {
	uneven := []string{"rdnrdn", "rrrrrr", "dddddd", "nnnnnn"}
	for _, letter := range badLetters() {
		for _, rows := range [][]string{{""}, {"r"}, uneven, uneven[:2]} {
			checkNoLoads(t, rows, letter)
		}
	}
	for _, rows := range append(badRosters(), []string{"nnn", "rr"}, []string{"rr", "nnn"}, []string{"nnn", "rrx"}, []string{strings.Repeat("n", 13), strings.Repeat("r", 13)}) {
		for _, letter := range append(eachLetter(), badLetters()...) {
			checkNoLoads(t, rows, letter)
		}
	}
}

// wrongFairer says what is wrong with the first swap that makes the loads of a letter fairer, or "".
func wrongFairer(rows []string, letter string) string {
	day, from, to, ok := impl.FairerSwap(rows, letter)
	all := fairerSwaps(rows, letter)
	if ok != (len(all) > 0) {
		return "whether there is one"
	}
	if !ok {
		if day != -1 || from != -1 || to != -1 {
			return "a swap beside false"
		}
		return ""
	}
	if all[0] != (swapTold{day, from, to}) {
		return "it is not the first one"
	}
	swapped, ok := impl.SwapAt(rows, day, from, to)
	before, after := impl.LoadsOf(rows, letter), impl.LoadsOf(swapped, letter)
	if !ok || !impl.FairerOk(after, before) || impl.FairerOk(before, after) {
		return "it makes them no fairer"
	}
	if rows[from][day:day+1] != letter || rows[to][day:day+1] == letter || before[from] < before[to]+2 {
		return "who gives"
	}
	return ""
}

// TestP75 is for rosters of all sizes, and also for such with swaps behind, up to those that nothing makes fairer.
func TestP75(t *testing.T) {
	t.Parallel()
	fairer, fair := 0, 0
	for _, rows := range someRosters() {
		for _, letter := range eachLetter() {
			for {
				if wrong := wrongFairer(rows, letter); wrong != "" {
					t.Fatalf("%q, %s: %s", rows, letter, wrong)
				}
				day, from, to, ok := impl.FairerSwap(rows, letter)
				if !ok {
					fair++
					break
				}
				rows = swappedBy(rows, day, from, to)
				fairer++
			}
		}
	}
	if fairer < 500 || fair < 500 {
		t.Errorf("just %d swaps make it fairer, and %d rosters are left", fairer, fair)
	}
}

func TestP75Examples(t *testing.T) {
	for _, told := range []struct {
		rows   string
		letter string
		want   swapTold
	}{
		{"rnnn rrdr", "n", swapTold{1, 0, 1}}, {"rrdr rnnn", "n", swapTold{1, 1, 0}}, {"rnnn rrdr", "r", swapTold{1, 1, 0}}, {"nn rr", "n", swapTold{0, 0, 1}}, {"nn rr", "r", swapTold{0, 1, 0}},
		// The first one who gives is not the one who has most, nor is the first one who is given to the one who has least.
		{"nnr nnn rrr", "n", swapTold{0, 0, 2}}, {"rnnn rnnn rrrn rrrr", "n", swapTold{1, 0, 2}}, {"nnnn rrrn rrrr", "n", swapTold{0, 0, 1}}, {"dndn drrn nddd", "d", swapTold{1, 2, 1}},
		// On the first days who has the most has them with all others, or not at all.
		{"ndddrn ndrrnr ndrrrn", "d", swapTold{2, 0, 1}}, {"rrnn nnrr nnnn", "n", swapTold{0, 2, 0}}, {"rrnn nrrr nnnn", "n", swapTold{0, 2, 0}}, {"nnnnnnnnnnnn nnnnnnnnnnrr", "n", swapTold{10, 0, 1}}, {"nnnnnnnnnnnr rrnnnnnnnnnd", "n", swapTold{0, 0, 1}},
	} {
		if day, from, to, ok := impl.FairerSwap(strings.Split(told.rows, " "), told.letter); !ok || (swapTold{day, from, to}) != told.want {
			t.Errorf("%q, %s: day %d, %d and %d, %v", told.rows, told.letter, day, from, to, ok)
		}
	}
}

// TestP75None is for rosters that no swap makes fairer: of one row, of no days, of equal loads, of loads that differ by one, and of a letter that nobody has.
func TestP75None(t *testing.T) {
	for _, rows := range []string{"", " ", "   ", "n", "nnnnnnnnnnnn", "rdn", "n r", "r n", "n n", "nr rn", "nnr rnr", "dnr rdn nrd", "rrrr dddd", "n r r r", "n n n r", "nn nr nr nn", "nnnnnnnnnnnn nnnnnnnnnnnr"} {
		checkNoneFairer(t, strings.Split(rows, " "), "n")
	}
	checkNoneFairer(t, []string{"rrr", "ddd"}, "n")
	checkNoneFairer(t, []string{"r", "d"}, "r")
	checkNoneFairer(t, []string{"r", "d"}, "d")
}

// TestSwapsChangeNothing is for rosters, which are not written to, not even behind their ends, and for results, which share no memory.
func TestSwapsChangeNothing(t *testing.T) {
	t.Parallel()
	for _, roster := range someRosters() {
		room := append(slices.Clone(roster), "behind", "it")
		before := slices.Clone(room)
		rows := room[:len(roster)]
		other := slices.Clone(roster)
		swapped, _ := impl.SwapAt(rows, 0, 0, len(rows)-1)
		spoiledRows(swapped)
		impl.SwapsBetween(rows, other)
		impl.SwapsBetween(other, rows)
		impl.ChangesOf(rows, other)
		impl.ChangesOf(other, rows)
		overwrite(impl.LoadsOf(rows, "n"))
		impl.FairerSwap(rows, "n")
		if !slices.Equal(room, before) || !slices.Equal(other, roster) {
			t.Fatalf("%q is written to, or shared", roster)
		}
		if again := impl.LoadsOf(rows, "n"); !slices.Equal(again, loadsBy(roster, "n")) {
			t.Fatalf("%q: loads again %v", roster, again)
		}
	}
}
