package tests

import (
	"slices"

	"loop.example/dutyrosters/impl"
)

// dayOf returns a day of so many people, with the numbers of its duties.
func dayOf(people int, can ...int) impl.Day {
	return impl.Day{People: people, Can: can}
}

func clonedDay(d impl.Day) impl.Day {
	return dayOf(d.People, slices.Clone(d.Can)...)
}

// daysOf returns all days of so many people and so many duties.
func daysOf(people int, duties int) []impl.Day {
	days := []impl.Day{dayOf(people)}
	for range duties {
		var longer []impl.Day
		for _, d := range days {
			for can := range 1 << people {
				longer = append(longer, dayOf(people, append(slices.Clone(d.Can), can)...))
			}
		}
		days = longer
	}
	return days
}

// smallDays returns all days of at most 3 people and 3 duties, and of at most 2 people.
func smallDays() []impl.Day {
	var days []impl.Day
	for people := range 3 {
		for duties := range impl.MaxDuties + 1 {
			days = append(days, daysOf(people, duties)...)
		}
	}
	for duties := range 4 {
		days = append(days, daysOf(3, duties)...)
	}
	return days
}

// drawnDays draws so many days of all sizes, of which each of the people can do a duty so often of 8 times.
func drawnDays(many int, often int) []impl.Day {
	d := &drawing{seed: uint64(10*many + often)}
	var days []impl.Day
	for range many {
		people := d.below(impl.MaxPeople + 1)
		var can []int
		for range d.below(impl.MaxDuties + 1) {
			number := 0
			for range people {
				number *= 2
				if d.below(8) < often {
					number++
				}
			}
			can = append(can, number)
		}
		days = append(days, dayOf(people, can...))
	}
	return days
}

// largeDays returns days of the most people or the most duties, among them those on which all are to move on so that one duty more can be done.
func largeDays() []impl.Day {
	return []impl.Day{
		dayOf(6), dayOf(6, 0, 0, 0, 0, 0), dayOf(6, 63, 63, 63, 63, 63), dayOf(5, 31, 31, 31, 31, 31), dayOf(4, 15, 15, 15, 15, 15), dayOf(1, 1, 1, 1, 1, 1),
		dayOf(6, 32, 32, 32, 32, 32), dayOf(6, 1, 2, 4, 8, 16), dayOf(6, 32, 16, 8, 4, 2), dayOf(6, 63, 0, 63, 0, 63), dayOf(6, 48, 48, 48, 3, 3),
		dayOf(5, 3, 6, 12, 24, 1), dayOf(4, 3, 6, 12, 8, 1), dayOf(6, 3, 6, 12, 24, 1), dayOf(5, 31, 15, 7, 3, 1), dayOf(6, 63, 31, 15, 7, 3), dayOf(5, 15, 7, 3, 1, 1),
		dayOf(6, 3, 3, 12, 12, 48), dayOf(6, 3, 3, 3, 12, 48), dayOf(6, 33, 18, 12, 33, 33), dayOf(5, 17, 3, 6, 12, 24), dayOf(6, 7, 7, 7, 7, 56),
	}
}

// someDays returns days of all sizes.
func someDays() []impl.Day {
	return slices.Concat(smallDays(), largeDays(), drawnDays(150, 1), drawnDays(200, 3), drawnDays(100, 5), drawnDays(30, 7))
}

// badDays returns what is no day: too few or too many people or duties, and duties with numbers of people who are not there.
func badDays() []impl.Day {
	days := []impl.Day{
		dayOf(-1), dayOf(7), dayOf(-1 << 63), dayOf(1<<63 - 1), dayOf(1 << 62), dayOf(64), dayOf(63), dayOf(-1, 0), dayOf(7, 0), dayOf(7, 1, 2), dayOf(-64, 1), dayOf(64, 1),
		dayOf(0, 0, 0, 0, 0, 0, 0), dayOf(6, 1, 2, 4, 8, 16, 32), dayOf(6, 63, 63, 63, 63, 63, 63), dayOf(3, slices.Repeat([]int{1}, 70)...),
		dayOf(0, 1), dayOf(0, -1), dayOf(1, 2), dayOf(1, 3), dayOf(2, 4), dayOf(6, 64), dayOf(6, 127), dayOf(6, 1<<62), dayOf(6, 1<<63-1), dayOf(6, -1<<63), dayOf(6, -1), dayOf(6, -64), dayOf(6, 1<<32+1),
	}
	for people := range impl.MaxPeople + 1 {
		days = append(days, dayOf(people, 0, 1<<people), dayOf(people, -1, 0), dayOf(people, 0, 0, 0, 0, 1<<people))
	}
	return days
}

// ableFor returns who can do a duty, in ascending order.
func ableFor(d impl.Day, duty int) []int {
	var able []int
	number := d.Can[duty]
	for person := range d.People {
		if number%2 == 1 {
			able = append(able, person)
		}
		number /= 2
	}
	return able
}

// rightBy reports whether a giving has for each duty one who can do it, and none twice.
func rightBy(d impl.Day, who []int) bool {
	if len(who) != len(d.Can) {
		return false
	}
	for duty, person := range who {
		if !slices.Contains(ableFor(d, duty), person) || slices.Contains(who[:duty], person) {
			return false
		}
	}
	return true
}

// rowsFrom returns all rows of so many numbers from a first one on and less than a bound, the lesser ones first.
func rowsFrom(first int, bound int, many int) [][]int {
	rows := [][]int{nil}
	for range many {
		var longer [][]int
		for _, row := range rows {
			for number := first; number < bound; number++ {
				longer = append(longer, append(slices.Clone(row), number))
			}
		}
		rows = longer
	}
	return rows
}

// givingsBy returns all right givings of a day, one by one, in their order.
func givingsBy(d impl.Day) [][]int {
	var givings [][]int
	for _, who := range rowsFrom(0, d.People, len(d.Can)) {
		if rightBy(d, who) {
			givings = append(givings, who)
		}
	}
	return givings
}

// mostBy returns how many duties can be done at most, person by person, each of whom does none or one that is not done yet.
func mostBy(d impl.Day) int {
	done := make([]bool, len(d.Can))
	var from func(person int) int
	from = func(person int) int {
		if person == d.People {
			return 0
		}
		most := from(person + 1)
		for duty := range d.Can {
			if !done[duty] && slices.Contains(ableFor(d, duty), person) {
				done[duty] = true
				most = max(most, 1+from(person+1))
				done[duty] = false
			}
		}
		return most
	}
	return from(0)
}

// shortIn returns by how many the duties of a set are more than the people who can do some duty of it.
func shortIn(d impl.Day, set int) int {
	duties := 0
	var people []int
	for duty := range d.Can {
		if set%2 == 1 {
			duties++
			people = append(people, ableFor(d, duty)...)
		}
		set /= 2
	}
	slices.Sort(people)
	return duties - len(slices.Compact(people))
}

// addedTo returns a day with one of the people more, behind the others, who can do all duties.
func addedTo(d impl.Day) impl.Day {
	more := dayOf(d.People + 1)
	for _, can := range d.Can {
		more.Can = append(more.Can, can+1<<d.People)
	}
	return more
}

// withoutLast returns a day without its last duty, and without one of the people for all others, who still is there but can do none.
func withoutLast(d impl.Day, person int) impl.Day {
	fewer := dayOf(d.People)
	for duty := range len(d.Can) - 1 {
		number := 0
		for _, able := range ableFor(d, duty) {
			if able != person {
				number += 1 << able
			}
		}
		fewer.Can = append(fewer.Can, number)
	}
	return fewer
}
