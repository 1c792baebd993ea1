package tests

import (
	"cmp"
	"slices"
	"strings"

	"loop.example/dutyrosters/impl"
)

// badPlaces returns numbers that are no row of any roster and no day of any roster.
func badPlaces() []int {
	return []int{-1 << 63, -1<<63 + 1, -100, -2, -1, 12, 13, 14, 100, 1 << 32, 1 << 62, 1<<63 - 1}
}

// exchangedLetters returns a text with the letters at two places exchanged.
func exchangedLetters(text string, a int, b int) string {
	changed := []byte(text)
	changed[a], changed[b] = text[b], text[a]
	return string(changed)
}

// swappedBy returns a roster in which two rows have exchanged their letters on a day: it is read as columns, and these again as rows.
func swappedBy(rows []string, day int, a int, b int) []string {
	columns := columnsOf(rows)
	columns[day] = exchangedLetters(columns[day], a, b)
	return columnsOf(columns)
}

// swapsOf returns all rosters that come from a roster by one swap.
func swapsOf(rows []string) [][]string {
	var all [][]string
	for day := range rows[0] {
		for a := range rows {
			for b := range a {
				all = append(all, swappedBy(rows, day, a, b))
			}
		}
	}
	return all
}

// awayFrom returns for each text to which exchanges of two letters of a first one lead how many of these it takes, found breadth-first; exchanges are just those of letters at two places of one of the groups, which are ranges of equal length.
func awayFrom(text string, group int) map[string]int {
	away := map[string]int{text: 0}
	queue := []string{text}
	for at := 0; at < len(queue); at++ {
		for a := range queue[at] {
			for b := a / group * group; b < a; b++ {
				next := exchangedLetters(queue[at], a, b)
				if _, seen := away[next]; !seen {
					away[next] = away[queue[at]] + 1
					queue = append(queue, next)
				}
			}
		}
	}
	return away
}

// swapsBy returns how many swaps lead from a roster to another one with as many rows and days, -1 if none do: day by day, each breadth-first.
func swapsBy(x []string, y []string) int {
	swaps := 0
	wanted := columnsOf(y)
	for day, column := range columnsOf(x) {
		away, ok := awayFrom(column, len(column))[wanted[day]]
		if !ok {
			return -1
		}
		swaps += away
	}
	return swaps
}

// changesBy returns how many letters of two rosters with as many rows and days differ.
func changesBy(x []string, y []string) int {
	changes := 0
	other := strings.Join(y, "")
	for at, letter := range strings.Join(x, "") {
		if rune(other[at]) != letter {
			changes++
		}
	}
	return changes
}

// swappedOn returns a roster with so many drawn swaps.
func (d *drawing) swappedOn(rows []string, swaps int) []string {
	for range swaps {
		all := swapsOf(rows)
		if len(all) == 0 {
			return rows
		}
		rows = all[d.below(len(all))]
	}
	return rows
}

// mixedDays returns a roster with the letters of each day in drawn order.
func (d *drawing) mixedDays(rows []string) []string {
	if rows[0] == "" {
		return rows
	}
	columns := columnsOf(rows)
	for day := range columns {
		for at := range len(rows) {
			columns[day] = exchangedLetters(columns[day], at, d.below(at+1))
		}
	}
	return columnsOf(columns)
}

// changedLetter returns a roster with another letter in a drawn row on a drawn day.
func (d *drawing) changedLetter(rows []string) []string {
	if rows[0] == "" {
		return rows
	}
	changed := slices.Clone(rows)
	row, day := d.below(len(rows)), d.below(len(rows[0]))
	letter := letters[(strings.IndexByte(letters, rows[row][day])+1+d.below(2))%3]
	changed[row] = rows[row][:day] + string(letter) + rows[row][day+1:]
	return changed
}

// allPairs returns all pairs of rosters.
func allPairs(rosters [][]string) [][2][]string {
	var pairs [][2][]string
	for _, x := range rosters {
		for _, y := range rosters {
			pairs = append(pairs, [2][]string{x, y})
		}
	}
	return pairs
}

// rosterPairs returns pairs of rosters with as many rows and days: all of few letters, and with rosters of all sizes others to which some swaps lead, or a changed letter more, and drawn ones.
func rosterPairs() [][2][]string {
	var pairs [][2][]string
	for people := 1; people <= impl.MaxRows; people++ {
		pairs = append(pairs, allPairs(rostersOf(people, 0))...)
		pairs = append(pairs, allPairs(rostersOf(people, 1))...)
	}
	for days := 2; days <= 4; days++ {
		pairs = append(pairs, allPairs(rostersOf(1, days))...)
	}
	pairs = append(pairs, allPairs(rostersOf(2, 2))...)
	d := &drawing{seed: 72}
	for _, rows := range someRosters() {
		var drawn []string
		for range rows {
			drawn = append(drawn, d.drawnRow(len(rows[0])))
		}
		mixed := d.mixedDays(rows)
		few := d.swappedOn(rows, 1+d.below(4))
		for _, other := range [][]string{rows, drawn, mixed, few, d.changedLetter(mixed), d.changedLetter(rows)} {
			pairs = append(pairs, [2][]string{rows, other})
		}
	}
	return pairs
}

// unlikePairs returns pairs of rosters with other numbers of rows or of days.
func unlikePairs() [][2][]string {
	var pairs [][2][]string
	for people := 1; people <= impl.MaxRows; people++ {
		for days := range impl.MaxDays + 1 {
			rows := slices.Repeat([]string{strings.Repeat("rdn", 4)[:days]}, people)
			for otherPeople := 1; otherPeople <= impl.MaxRows; otherPeople++ {
				for otherDays := range impl.MaxDays + 1 {
					other := slices.Repeat([]string{strings.Repeat("rdn", 4)[:otherDays]}, otherPeople)
					if people != otherPeople || days != otherDays {
						pairs = append(pairs, [2][]string{rows, other})
					}
				}
			}
		}
	}
	return pairs
}

// loadsBy returns how often each row has a letter.
func loadsBy(rows []string, letter string) []int {
	var loads []int
	for _, row := range rows {
		loads = append(loads, strings.Count(row, letter))
	}
	return loads
}

// swapTold has the day of a swap, the row that gives, and the other one.
type swapTold struct {
	day  int
	from int
	to   int
}

// fairerSwaps returns all swaps after which the loads of a letter are fairer, and the other way not, told by these loads, in the order of days, then of the row that gives.
func fairerSwaps(rows []string, letter string) []swapTold {
	before := loadsBy(rows, letter)
	var all []swapTold
	for day := range rows[0] {
		for a := range rows {
			for b := range a {
				after := loadsBy(swappedBy(rows, day, a, b), letter)
				if !fairerBy(after, before) || fairerBy(before, after) {
					continue
				}
				if after[a] < before[a] {
					all = append(all, swapTold{day, a, b})
				} else {
					all = append(all, swapTold{day, b, a})
				}
			}
		}
	}
	slices.SortFunc(all, func(a swapTold, b swapTold) int {
		return cmp.Or(a.day-b.day, a.from-b.from, a.to-b.to)
	})
	return all
}
