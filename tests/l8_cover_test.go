package tests

import (
	"slices"
	"testing"

	"loop.example/dutyrosters/impl"
)

func TestCoverBounds(t *testing.T) {
	if impl.MaxPeople != 6 || impl.MaxDuties != 5 {
		t.Fatal(impl.MaxPeople, impl.MaxDuties)
	}
}

// TestP48 is for days, without any duties, and without the last one.
func TestP48(t *testing.T) {
	t.Parallel()
	for _, d := range someDays() {
		if !impl.DayOk(d) || !impl.DayOk(dayOf(d.People)) || !impl.DayOk(impl.Day{People: d.People, Can: []int{}}) {
			t.Fatalf("%v, or without duties, is no day", d)
		}
		for duty := range d.Can {
			if !impl.DayOk(dayOf(d.People, d.Can[:duty]...)) {
				t.Fatalf("%v with %d duties is no day", d, duty)
			}
		}
	}
}

// TestP48Bounds is for each number of people, of duties, and of a duty.
func TestP48Bounds(t *testing.T) {
	if !impl.DayOk(impl.Day{}) {
		t.Error("no people and no duties are no day")
	}
	for people := -2; people < 10; people++ {
		for duties := range 9 {
			right := people >= 0 && people <= 6 && duties <= 5
			if ok := impl.DayOk(dayOf(people, make([]int, duties)...)); ok != right {
				t.Errorf("%d people, %d duties: %v", people, duties, ok)
			}
		}
	}
	for people, bound := range []int{1, 2, 4, 8, 16, 32, 64} {
		for can := -70; can < 140; can++ {
			right := can >= 0 && can < bound
			for at := range 5 {
				d := dayOf(people, make([]int, 5)...)
				d.Can[at] = can
				if ok := impl.DayOk(d); ok != right {
					t.Errorf("%v: %v", d, ok)
				}
			}
		}
	}
	for _, d := range badDays() {
		if impl.DayOk(d) {
			t.Errorf("%v is a day", d)
		}
	}
}

// TestP49 is for how many duties can be done, one by one, and with one of the people more.
func TestP49(t *testing.T) {
	t.Parallel()
	for _, d := range someDays() {
		most := impl.MostDone(d)
		if most != mostBy(d) {
			t.Fatalf("%v: %d can be done, not %d", d, most, mostBy(d))
		}
		if short, _, ok := impl.ShortOf(d); !ok || most+short != len(d.Can) {
			t.Fatalf("%v: %d can be done, and %d are short, %v", d, most, short, ok)
		}
		if more := addedTo(d); d.People < impl.MaxPeople && impl.MostDone(more) != min(most+1, len(d.Can)) {
			t.Fatalf("%v: %d can be done, and with one more %d", d, most, impl.MostDone(more))
		}
	}
}

// TestP49Small is for all days of 3 people and 4 duties, and of 4 and 3.
func TestP49Small(t *testing.T) {
	t.Parallel()
	for _, d := range append(daysOf(3, 4), daysOf(4, 3)...) {
		most := impl.MostDone(d)
		if short, _, ok := impl.ShortOf(d); !ok || most+short != len(d.Can) || most != mostBy(d) {
			t.Fatalf("%v: %d can be done, and %d are short, %v", d, most, short, ok)
		}
	}
}

// coverTold has what is known by hand of a day.
type coverTold struct {
	day   impl.Day
	most  int
	short int
	set   int
	ways  int
	first []int
}

// coversTold returns what is known by hand of days.
func coversTold() []coverTold {
	return []coverTold{
		{dayOf(0), 0, 0, 0, 1, nil}, {dayOf(1), 0, 0, 0, 1, nil}, {dayOf(6), 0, 0, 0, 1, nil},
		{dayOf(3, 1, 3, 6), 3, 0, 0, 1, []int{0, 1, 2}},
		{dayOf(2, 1, 1, 3), 2, 1, 3, 0, nil},
		// Duties that none can do.
		{dayOf(0, 0), 0, 1, 1, 0, nil}, {dayOf(0, 0, 0, 0, 0, 0), 0, 5, 31, 0, nil}, {dayOf(6, 0), 0, 1, 1, 0, nil}, {dayOf(2, 3, 0), 1, 1, 2, 0, nil}, {dayOf(2, 0, 3), 1, 1, 1, 0, nil},
		{dayOf(6, 63, 0, 63, 0, 63), 3, 2, 10, 0, nil}, {dayOf(6, 0, 0, 0, 0, 0), 0, 5, 31, 0, nil},
		// All can do all.
		{dayOf(1, 1), 1, 0, 0, 1, []int{0}}, {dayOf(2, 3, 3), 2, 0, 0, 2, []int{0, 1}}, {dayOf(6, 63, 63, 63, 63, 63), 5, 0, 0, 720, []int{0, 1, 2, 3, 4}},
		{dayOf(5, 31, 31, 31, 31, 31), 5, 0, 0, 120, []int{0, 1, 2, 3, 4}}, {dayOf(4, 15, 15, 15, 15, 15), 4, 1, 31, 0, nil}, {dayOf(6, 63), 1, 0, 0, 6, []int{0}},
		// Those who have duties are to move on.
		{dayOf(2, 3, 1), 2, 0, 0, 1, []int{1, 0}}, {dayOf(3, 3, 5, 1), 3, 0, 0, 1, []int{1, 2, 0}}, {dayOf(5, 3, 6, 12, 24, 1), 5, 0, 0, 1, []int{1, 2, 3, 4, 0}},
		{dayOf(5, 31, 15, 7, 3, 1), 5, 0, 0, 1, []int{4, 3, 2, 1, 0}}, {dayOf(6, 63, 31, 15, 7, 3), 5, 0, 0, 32, []int{0, 4, 3, 2, 1}},
		{dayOf(4, 3, 6, 12, 8, 1), 4, 1, 31, 0, nil}, {dayOf(6, 32, 16, 8, 4, 2), 5, 0, 0, 1, []int{5, 4, 3, 2, 1}},
		// Of sets as short the least number is told: that without what is not needed.
		{dayOf(1, 1, 1, 1, 1, 1), 1, 4, 31, 0, nil}, {dayOf(2, 1, 1, 2, 0), 2, 2, 11, 0, nil}, {dayOf(3, 4, 1, 1, 2), 3, 1, 6, 0, nil}, {dayOf(2, 2, 1, 1), 2, 1, 6, 0, nil},
		{dayOf(6, 48, 48, 48, 3, 3), 4, 1, 7, 0, nil}, {dayOf(6, 3, 3, 12, 12, 48), 5, 0, 0, 8, []int{0, 1, 2, 3, 4}}, {dayOf(6, 7, 7, 7, 7, 56), 4, 1, 15, 0, nil},
	}
}

func TestP49P50Examples(t *testing.T) {
	for _, told := range coversTold() {
		if most := impl.MostDone(told.day); most != told.most {
			t.Errorf("%v: %d can be done, not %d", told.day, most, told.most)
		}
		if short, set, ok := impl.ShortOf(told.day); !ok || short != told.short || set != told.set {
			t.Errorf("%v: %d are short in %d, %v, not %d in %d", told.day, short, set, ok, told.short, told.set)
		}
	}
}

// TestP49P50Others is for what is no day.
func TestP49P50Others(t *testing.T) {
	for _, d := range badDays() {
		if most := impl.MostDone(d); most != -1 {
			t.Errorf("%v: %d can be done", d, most)
		}
		if short, set, ok := impl.ShortOf(d); short != -1 || set != -1 || ok {
			t.Errorf("%v: %d are short in %d, %v", d, short, set, ok)
		}
	}
}

// wrongShort says what is wrong with the set of a day that is short, or "".
func wrongShort(d impl.Day) string {
	short, set, ok := impl.ShortOf(d)
	all := 1<<len(d.Can) - 1
	switch {
	case !ok || short < 0 || set < 0 || set > all:
		return "there is none"
	case (short == 0) != (impl.CountGivings(d) > 0):
		return "it is short, or none is, and so is no giving"
	case short == 0 && set != 0:
		return "it is not the set of none"
	case shortIn(d, set) != short:
		return "its number"
	}
	for other := range all + 1 {
		if by := shortIn(d, other); by > short || by == short && other < set {
			return "another one is shorter, or as short and less"
		}
	}
	return ""
}

// TestP50 is for sets of duties that are short.
func TestP50(t *testing.T) {
	t.Parallel()
	for _, d := range slices.Concat(someDays(), daysOf(3, 4), daysOf(4, 3)) {
		if wrong := wrongShort(d); wrong != "" {
			short, set, ok := impl.ShortOf(d)
			t.Fatalf("%v, %d in %d, %v: %s", d, short, set, ok, wrong)
		}
	}
}

// TestP51 is for all givings, right or not, and those without the last duty.
func TestP51(t *testing.T) {
	t.Parallel()
	for _, d := range append(smallDays(), drawnDays(60, 4)...) {
		for _, who := range rowsFrom(-1, d.People+1, min(len(d.Can), 4)) {
			ok := impl.GivingOk(d, who)
			if ok != rightBy(d, who) {
				t.Fatalf("%v, %v: %v", d, who, ok)
			}
			if last := len(who) - 1; ok && last >= 0 && !impl.GivingOk(dayOf(d.People, d.Can[:last]...), who[:last]) {
				t.Fatalf("%v, %v is right, but not without the last duty", d, who)
			}
		}
	}
}

// TestP51Large is for right givings of all sizes, and for such with one of the people changed, twice there, or left out.
func TestP51Large(t *testing.T) {
	t.Parallel()
	for _, d := range append(largeDays(), drawnDays(60, 5)...) {
		for _, who := range givingsBy(d) {
			if !impl.GivingOk(d, who) {
				t.Fatalf("%v, %v is not right", d, who)
			}
			for duty := range who {
				changed := slices.Clone(who)
				for person := -1; person <= impl.MaxPeople; person++ {
					changed[duty] = person
					if ok := impl.GivingOk(d, changed); ok != rightBy(d, changed) {
						t.Fatalf("%v, %v: %v", d, changed, ok)
					}
				}
			}
			if len(who) > 0 && impl.GivingOk(d, who[:len(who)-1]) || impl.GivingOk(d, append(slices.Clone(who), 5)) {
				t.Fatalf("%v, %v is right with one fewer or one more", d, who)
			}
		}
	}
}

func TestP51Examples(t *testing.T) {
	d := dayOf(3, 1, 3, 6)
	all := dayOf(6, 63, 63, 63, 63, 63)
	for _, told := range []struct {
		day   impl.Day
		who   []int
		right bool
	}{
		{d, []int{0, 1, 2}, true}, {d, []int{0, 0, 2}, false}, {d, []int{0, 1, 1}, false}, {d, []int{1, 0, 2}, false}, {d, []int{0, 1}, false}, {d, []int{0, 1, 2, 2}, false}, {d, nil, false},
		{d, []int{0, 1, 3}, false}, {d, []int{0, 1, -1}, false}, {d, []int{-1, 1, 2}, false}, {d, []int{0, 1, 64}, false}, {d, []int{64, 1, 2}, false},
		{d, []int{0, 1, 1<<63 - 1}, false}, {d, []int{-1 << 63, 1, 2}, false}, {d, []int{0, 1, 2 + 64}, false}, {d, []int{-64, 1, 2}, false},
		{dayOf(0), nil, true}, {dayOf(0), []int{}, true}, {dayOf(6), nil, true}, {dayOf(0), []int{0}, false}, {dayOf(0), []int{-1}, false}, {dayOf(6), []int{0}, false},
		{dayOf(0, 0), nil, false}, {dayOf(0, 0), []int{0}, false}, {dayOf(0, 0), []int{-1}, false}, {dayOf(2, 0), []int{0}, false}, {dayOf(2, 3, 0), []int{0, 1}, false}, {dayOf(2, 3, 0), []int{0, -1}, false},
		{all, []int{5, 4, 3, 2, 1}, true}, {all, []int{0, 1, 2, 3, 4}, true}, {all, []int{0, 1, 2, 3, 6}, false}, {all, []int{0, 1, 2, 3, 0}, false}, {all, []int{4, 1, 2, 3, 4}, false}, {all, []int{0, 1, 2, 3, 4, 5}, false},
		// One can do what the next one cannot.
		{dayOf(3, 5), []int{0}, true}, {dayOf(3, 5), []int{1}, false}, {dayOf(3, 5), []int{2}, true}, {dayOf(3, 2), []int{0}, false}, {dayOf(3, 2), []int{2}, false}, {dayOf(6, 32), []int{5}, true}, {dayOf(5, 16), []int{5}, false},
	} {
		if right := impl.GivingOk(told.day, told.who); right != told.right {
			t.Errorf("%v, %v: %v", told.day, told.who, right)
		}
	}
}

// TestP52 is for the first giving of all that are right, one by one in their order.
func TestP52(t *testing.T) {
	t.Parallel()
	for _, d := range someDays() {
		who, ok := impl.FirstGiving(d)
		givings := givingsBy(d)
		if ok != (len(givings) > 0) || ok != (impl.MostDone(d) == len(d.Can)) {
			t.Fatalf("%v: %v, %v", d, who, ok)
		}
		if !ok {
			if who != nil {
				t.Fatalf("%v: %v beside false", d, who)
			}
			continue
		}
		if !slices.Equal(who, givings[0]) || !impl.GivingOk(d, who) {
			t.Fatalf("%v: %v is first, not %v", d, who, givings[0])
		}
	}
}

// TestP53 is for how many givings there are, one by one, and by who does the last duty.
func TestP53(t *testing.T) {
	t.Parallel()
	for _, d := range someDays() {
		ways := impl.CountGivings(d)
		if ways != len(givingsBy(d)) {
			t.Fatalf("%v: %d givings, not %d", d, ways, len(givingsBy(d)))
		}
		if empty := impl.CountGivings(dayOf(d.People)); empty != 1 {
			t.Fatalf("%d people without duties: %d givings", d.People, empty)
		}
		if len(d.Can) == 0 {
			continue
		}
		together := 0
		for _, person := range ableFor(d, len(d.Can)-1) {
			together += impl.CountGivings(withoutLast(d, person))
		}
		if ways != together {
			t.Fatalf("%v: %d givings, by the last duty %d", d, ways, together)
		}
	}
}

func TestP52P53Examples(t *testing.T) {
	for _, told := range coversTold() {
		if ways := impl.CountGivings(told.day); ways != told.ways {
			t.Errorf("%v: %d givings, not %d", told.day, ways, told.ways)
		}
		if who, ok := impl.FirstGiving(told.day); ok != (told.ways > 0) || !slices.Equal(who, told.first) {
			t.Errorf("%v: %v, %v, not %v", told.day, who, ok, told.first)
		}
	}
}

// TestP51P52P53Others is for what is no day.
func TestP51P52P53Others(t *testing.T) {
	for _, d := range badDays() {
		if who, ok := impl.FirstGiving(d); who != nil || ok {
			t.Errorf("%v: %v, %v", d, who, ok)
		}
		if ways := impl.CountGivings(d); ways != -1 {
			t.Errorf("%v: %d givings", d, ways)
		}
		for _, who := range [][]int{nil, {0}, {0, 1}, {1, 0}, {0, 1, 2, 3, 4, 5}, make([]int, len(d.Can))} {
			if impl.GivingOk(d, who) {
				t.Errorf("%v, %v is right", d, who)
			}
		}
	}
}

// TestCoverChangesNothing is for days and givings, which are not written to, not even behind their ends, and for results, which share no memory.
func TestCoverChangesNothing(t *testing.T) {
	for _, given := range someDays() {
		room := append(slices.Clone(given.Can), -7, -7, -7)
		d := dayOf(given.People, room[:len(given.Can)]...)
		before := slices.Clone(room)
		impl.DayOk(d)
		impl.MostDone(d)
		impl.ShortOf(d)
		impl.CountGivings(d)
		who, _ := impl.FirstGiving(d)
		again, _ := impl.FirstGiving(d)
		for duty := range who {
			who[duty] = 9
		}
		if !slices.Equal(room, before) {
			t.Fatalf("%v is written to", given)
		}
		if len(again) > 0 && !impl.GivingOk(clonedDay(given), again) {
			t.Fatalf("%v: both first givings share memory", given)
		}
		kept := slices.Clone(again)
		impl.GivingOk(d, again)
		if !slices.Equal(again, kept) {
			t.Fatalf("%v, %v is written to", given, kept)
		}
	}
}
