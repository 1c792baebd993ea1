package tests

import (
	"slices"

	"loop.example/dutyrosters/impl"
)

// smallLoads returns all rows of loads of each number of people, of one and two with loads up to MaxLoad.
func smallLoads() [][]int {
	var rows [][]int
	for fewer, bound := range []int{31, 31, 8, 5, 4, 3} {
		rows = append(rows, rowsFrom(0, bound, fewer+1)...)
	}
	return rows
}

// equalLoads returns for each number of people some rows of loads that are all equal.
func equalLoads() [][]int {
	var rows [][]int
	for people := 1; people <= impl.MaxPeople; people++ {
		for _, load := range []int{0, 1, 2, 5, 29, 30} {
			rows = append(rows, slices.Repeat([]int{load}, people))
		}
	}
	return rows
}

// largeLoads returns rows of loads with the greatest and the least loads, and with sums just beside what is shared evenly.
func largeLoads() [][]int {
	return append(equalLoads(), [][]int{
		{30, 0, 0, 0, 0, 0}, {0, 0, 0, 0, 0, 30}, {30, 30, 30, 0, 0, 0}, {0, 30, 0, 30, 0, 30}, {30, 30, 30, 30, 30, 0}, {0, 30, 30, 30, 30, 30}, {30, 30, 30, 30, 30, 29}, {29, 30, 30, 30, 30, 28},
		{1, 0, 0, 0, 0, 0}, {0, 0, 0, 0, 0, 1}, {2, 0, 0, 0, 0, 0}, {1, 0, 1, 0, 1, 0}, {2, 1, 2, 1, 2, 1}, {3, 2, 1, 1, 2, 3}, {5, 5, 5, 5, 5, 4}, {5, 5, 5, 4, 4, 4}, {6, 5, 5, 4, 5, 5},
		{0, 1, 2, 3, 4, 5}, {5, 4, 3, 2, 1, 0}, {0, 6, 12, 18, 24, 30}, {30, 24, 18, 12, 6, 0}, {10, 10, 10, 0, 0, 0}, {15, 15, 0, 0}, {8, 8, 7, 7}, {8, 7, 8, 7}, {9, 7, 7, 7}, {8, 8, 8, 6},
		{30, 0, 0}, {0, 0, 30}, {30, 1, 0}, {29, 1, 1}, {11, 10, 10}, {10, 11, 11}, {12, 10, 10}, {30, 30, 0}, {30, 30, 1, 0}, {4, 0, 3, 1}, {30, 0, 15, 15}, {16, 14, 15, 15, 15},
	}...)
}

// drawnLoads draws so many rows of loads of all sizes, each of loads up to a bound of its own.
func drawnLoads(many int) [][]int {
	d := &drawing{seed: uint64(900 + many)}
	var rows [][]int
	for range many {
		most := d.below(impl.MaxLoad + 1)
		var loads []int
		for range 1 + d.below(impl.MaxPeople) {
			loads = append(loads, d.below(most+1))
		}
		rows = append(rows, loads)
	}
	return rows
}

// someLoads returns rows of loads of all sizes.
func someLoads() [][]int {
	return slices.Concat(smallLoads(), largeLoads(), drawnLoads(600))
}

// badLoads returns what are no loads: none, too many, and such with one that is less than 0 or too great, in each place.
func badLoads() [][]int {
	rows := [][]int{nil, {}, {0, 0, 0, 0, 0, 0, 0}, {1, 2, 3, 4, 5, 6, 7}, make([]int, 64), make([]int, 256), {-1, 31}, {31, -1}, {-30}, {30, 30, 30, 30, 30, 30, 30}}
	for people := 1; people <= impl.MaxPeople; people++ {
		for at := range people {
			for _, load := range []int{-1, 31, -31, 32, 60, 256, 1<<32 + 1, 1 << 62, 1<<63 - 1, -1 << 63} {
				loads := slices.Repeat([]int{2}, people)
				loads[at] = load
				rows = append(rows, loads)
			}
		}
	}
	return rows
}

// sortedBy returns loads from the greatest one down, told by how often each number is among them.
func sortedBy(loads []int) []int {
	often := make([]int, impl.MaxLoad+1)
	for _, load := range loads {
		often[load]++
	}
	var sorted []int
	for load := impl.MaxLoad; load >= 0; load-- {
		sorted = append(sorted, slices.Repeat([]int{load}, often[load])...)
	}
	return sorted
}

// overBy returns by how much loads are more than a number, together, those that are.
func overBy(loads []int, number int) int {
	over := 0
	for _, load := range loads {
		over += max(0, load-number)
	}
	return over
}

// fairerBy reports whether a row is as fair as another one, or fairer, told without greatest loads: over each number it has together at most what the other one has.
func fairerBy(a []int, b []int) bool {
	if len(a) != len(b) || sumOf(a) != sumOf(b) {
		return false
	}
	for number := range impl.MaxLoad + 1 {
		if overBy(a, number) > overBy(b, number) {
			return false
		}
	}
	return true
}

// fairestBy returns the loads of so many people to whom so many duties are given one by one in turn.
func fairestBy(people int, duties int) []int {
	loads := make([]int, people)
	for duty := range duties {
		loads[duty%people]++
	}
	return loads
}

// spreadBy returns by how much some load is more than some other one at most.
func spreadBy(loads []int) int {
	spread := 0
	for _, a := range loads {
		for _, b := range loads {
			spread = max(spread, a-b)
		}
	}
	return spread
}

// givenBy returns loads of which one has given a duty to another one, and whether all are still from 0 to MaxLoad.
func givenBy(loads []int, from int, to int) ([]int, bool) {
	given := slices.Clone(loads)
	if given[from] == 0 || given[to] == impl.MaxLoad {
		return nil, false
	}
	given[from]--
	given[to]++
	return given, true
}

// givingsOf returns all loads that come from loads by one giving.
func givingsOf(loads []int) [][]int {
	var all [][]int
	for from := range loads {
		for to := range loads {
			if given, ok := givenBy(loads, from, to); ok && from != to {
				all = append(all, given)
			}
		}
	}
	return all
}

// fixedRow returns loads as an array, which may be a key.
func fixedRow(loads []int) [impl.MaxPeople]int {
	var key [impl.MaxPeople]int
	copy(key[:], loads)
	return key
}

// stepsBy returns how many givings the nearest loads that differ by one at most are away, found breadth-first.
func stepsBy(loads []int) int {
	seen := map[[impl.MaxPeople]int]bool{fixedRow(loads): true}
	round := [][]int{loads}
	for steps := 0; ; steps++ {
		var next [][]int
		for _, row := range round {
			if spreadBy(row) <= 1 {
				return steps
			}
			for _, given := range givingsOf(row) {
				if key := fixedRow(given); !seen[key] {
					seen[key] = true
					next = append(next, given)
				}
			}
		}
		round = next
	}
}

// mixed returns loads with so many drawn givings, so that the sum stays.
func (d *drawing) mixed(loads []int, givings int) []int {
	for range givings {
		all := givingsOf(loads)
		if len(all) == 0 {
			return loads
		}
		loads = all[d.below(len(all))]
	}
	return loads
}

// loadPairs returns pairs of rows of loads: all of small ones of the same number of people, drawn ones with the same sum, and some of other numbers of people or sums.
func loadPairs() [][2][]int {
	var pairs [][2][]int
	for fewer, bound := range []int{31, 9, 5, 4, 3, 2} {
		rows := rowsFrom(0, bound, fewer+1)
		for _, a := range rows {
			for _, b := range rows {
				pairs = append(pairs, [2][]int{a, b})
			}
		}
	}
	d := &drawing{seed: 58}
	rows := append(drawnLoads(1500), largeLoads()...)
	for at, row := range rows {
		pairs = append(pairs, [2][]int{row, row}, [2][]int{row, rows[(at+1)%len(rows)]})
		for _, givings := range []int{1, 2, 5, 20} {
			pairs = append(pairs, [2][]int{row, d.mixed(row, givings)})
		}
	}
	return pairs
}
