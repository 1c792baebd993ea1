package tests

import (
	"slices"
	"testing"

	"loop.example/dutyrosters/impl"
)

func TestSharesBounds(t *testing.T) {
	if impl.MaxLoad != 30 || impl.MaxPeople != 6 {
		t.Fatal(impl.MaxLoad, impl.MaxPeople)
	}
}

// TestP54 is for rows of loads, and without the last one if there are two or more.
func TestP54(t *testing.T) {
	t.Parallel()
	for _, loads := range someLoads() {
		if !impl.LoadsOk(loads) {
			t.Fatalf("%v are no loads", loads)
		}
		fewer := loads[:len(loads)-1]
		if ok := impl.LoadsOk(fewer); ok != (len(loads) > 1) {
			t.Fatalf("%v: %v", fewer, ok)
		}
	}
	if !impl.LoadsOk([]int{0}) || !impl.LoadsOk([]int{impl.MaxLoad}) {
		t.Error("one load of 0, or of MaxLoad, is no row")
	}
}

// TestP54Bounds is for each number of loads, and for each load in each place.
func TestP54Bounds(t *testing.T) {
	for people := range 20 {
		if ok := impl.LoadsOk(make([]int, people)); ok != (people >= 1 && people <= 6) {
			t.Errorf("%d loads of 0: %v", people, ok)
		}
	}
	for people := 1; people <= 6; people++ {
		for at := range people {
			for load := -70; load < 140; load++ {
				loads := make([]int, people)
				loads[at] = load
				if ok := impl.LoadsOk(loads); ok != (load >= 0 && load <= 30) {
					t.Errorf("%v: %v", loads, ok)
				}
			}
		}
	}
	for _, loads := range badLoads() {
		if impl.LoadsOk(loads) {
			t.Errorf("%v are loads", loads)
		}
	}
}

// TestP55 is for sorted loads.
func TestP55(t *testing.T) {
	t.Parallel()
	for _, loads := range someLoads() {
		sorted := impl.SortedLoads(loads)
		if !slices.Equal(sorted, sortedBy(loads)) {
			t.Fatalf("%v: sorted %v", loads, sorted)
		}
		for at := 1; at < len(sorted); at++ {
			if sorted[at] > sorted[at-1] {
				t.Fatalf("%v: sorted %v", loads, sorted)
			}
		}
		if !impl.FairerOk(sorted, loads) || !impl.FairerOk(loads, sorted) {
			t.Fatalf("%v and %v are not as fair as each other", loads, sorted)
		}
		if again := impl.SortedLoads(sorted); !slices.Equal(again, sorted) {
			t.Fatalf("%v: sorted %v, and again %v", loads, sorted, again)
		}
	}
}

// TestP56 is for the spread of loads.
func TestP56(t *testing.T) {
	t.Parallel()
	for _, loads := range someLoads() {
		spread := impl.SpreadOf(loads)
		if spread != spreadBy(loads) {
			t.Fatalf("%v: spread by %d", loads, spread)
		}
		if steps := impl.StepsToFair(loads); (spread <= 1) != (steps == 0) {
			t.Fatalf("%v: spread by %d, and %d givings are needed", loads, spread, steps)
		}
		if sorted := impl.SortedLoads(loads); impl.SpreadOf(sorted) != spread {
			t.Fatalf("%v: spread by %d, sorted by %d", loads, spread, impl.SpreadOf(sorted))
		}
	}
}

// TestP57 is for the sum of the squares of loads.
func TestP57(t *testing.T) {
	t.Parallel()
	for _, loads := range someLoads() {
		squares, sum := 0, 0
		for _, load := range loads {
			sum += load
			for range load {
				squares += load
			}
		}
		if got := impl.SquaresOf(loads); got != squares {
			t.Fatalf("%v: squares %d, not %d", loads, got, squares)
		}
		all := impl.SquaresOf(loads) * len(loads)
		if all < sum*sum || (all == sum*sum) != (impl.SpreadOf(loads) == 0) {
			t.Fatalf("%v: squares %d, spread %d", loads, impl.SquaresOf(loads), impl.SpreadOf(loads))
		}
	}
}

// sharesTold has what is known by hand of loads.
type sharesTold struct {
	loads   []int
	sorted  []int
	spread  int
	squares int
	steps   int
}

func TestP55P56P57Examples(t *testing.T) {
	for _, told := range []sharesTold{
		{[]int{4, 0, 3, 1}, []int{4, 3, 1, 0}, 4, 26, 3}, {[]int{2, 2, 1}, []int{2, 2, 1}, 1, 9, 0},
		// One of the people.
		{[]int{0}, []int{0}, 0, 0, 0}, {[]int{1}, []int{1}, 0, 1, 0}, {[]int{30}, []int{30}, 0, 900, 0}, {[]int{17}, []int{17}, 0, 289, 0},
		// Loads that are all equal.
		{[]int{0, 0}, []int{0, 0}, 0, 0, 0}, {[]int{30, 30}, []int{30, 30}, 0, 1800, 0}, {[]int{3, 3, 3}, []int{3, 3, 3}, 0, 27, 0},
		{[]int{0, 0, 0, 0, 0, 0}, []int{0, 0, 0, 0, 0, 0}, 0, 0, 0}, {[]int{30, 30, 30, 30, 30, 30}, []int{30, 30, 30, 30, 30, 30}, 0, 5400, 0},
		// Two of the people, and more.
		{[]int{0, 1}, []int{1, 0}, 1, 1, 0}, {[]int{0, 2}, []int{2, 0}, 2, 4, 1}, {[]int{3, 0}, []int{3, 0}, 3, 9, 1}, {[]int{0, 30}, []int{30, 0}, 30, 900, 15}, {[]int{29, 0}, []int{29, 0}, 29, 841, 14},
		{[]int{0, 2, 2}, []int{2, 2, 0}, 2, 8, 1}, {[]int{2, 0, 0}, []int{2, 0, 0}, 2, 4, 1}, {[]int{1, 2, 3}, []int{3, 2, 1}, 2, 14, 1}, {[]int{0, 30, 0}, []int{30, 0, 0}, 30, 900, 20}, {[]int{30, 0, 30}, []int{30, 30, 0}, 30, 1800, 20},
		{[]int{10, 2, 9}, []int{10, 9, 2}, 8, 185, 5}, {[]int{5, 25, 15, 10}, []int{25, 15, 10, 5}, 20, 975, 12},
		{[]int{0, 30, 0, 30, 0, 30}, []int{30, 30, 30, 0, 0, 0}, 30, 2700, 45}, {[]int{0, 1, 2, 3, 4, 5}, []int{5, 4, 3, 2, 1, 0}, 5, 55, 3}, {[]int{30, 30, 30, 30, 30, 0}, []int{30, 30, 30, 30, 30, 0}, 30, 4500, 25},
		{[]int{30, 0, 0, 0, 0, 0}, []int{30, 0, 0, 0, 0, 0}, 30, 900, 25}, {[]int{30, 30, 29, 30, 30, 30}, []int{30, 30, 30, 30, 30, 29}, 1, 5341, 0},
	} {
		if sorted := impl.SortedLoads(told.loads); !slices.Equal(sorted, told.sorted) {
			t.Errorf("%v: sorted %v", told.loads, sorted)
		}
		if spread := impl.SpreadOf(told.loads); spread != told.spread {
			t.Errorf("%v: spread by %d, not %d", told.loads, spread, told.spread)
		}
		if squares := impl.SquaresOf(told.loads); squares != told.squares {
			t.Errorf("%v: squares %d, not %d", told.loads, squares, told.squares)
		}
		if steps := impl.StepsToFair(told.loads); steps != told.steps {
			t.Errorf("%v: %d steps, not %d", told.loads, steps, told.steps)
		}
	}
}

// TestSharesOthers is for what are no loads (P55, P56, P57, P58, P59 and P61).
func TestSharesOthers(t *testing.T) {
	for _, loads := range badLoads() {
		if sorted := impl.SortedLoads(loads); sorted != nil {
			t.Errorf("%v: sorted %v", loads, sorted)
		}
		if spread, squares, steps := impl.SpreadOf(loads), impl.SquaresOf(loads), impl.StepsToFair(loads); spread != -1 || squares != -1 || steps != -1 {
			t.Errorf("%v: spread by %d, squares %d, %d steps", loads, spread, squares, steps)
		}
		equal := slices.Repeat([]int{2}, len(loads))
		if impl.FairerOk(loads, loads) || impl.FairerOk(loads, equal) || impl.FairerOk(equal, loads) || impl.FairerOk(loads, nil) || impl.FairerOk(nil, loads) || impl.FairerOk(loads, []int{0}) {
			t.Errorf("%v are as fair as others, or others as these", loads)
		}
		for from := -1; from <= len(loads); from++ {
			for to := -1; to <= len(loads); to++ {
				if given, ok := impl.GivenOn(loads, from, to); given != nil || ok {
					t.Errorf("%v, from %d to %d: %v, %v", loads, from, to, given, ok)
				}
			}
		}
	}
}

// wrongPair says what is wrong with how fair two rows of loads are, the first one against the second one, or "".
func wrongPair(a []int, b []int) string {
	fairer, back := impl.FairerOk(a, b), impl.FairerOk(b, a)
	switch {
	case fairer != fairerBy(a, b) || back != fairerBy(b, a):
		return "which one is fairer"
	case fairer && (impl.SquaresOf(a) > impl.SquaresOf(b) || impl.SpreadOf(a) > impl.SpreadOf(b)):
		return "it is fairer, and its squares or its spread are greater"
	case (fairer && back) != slices.Equal(impl.SortedLoads(a), impl.SortedLoads(b)):
		return "both ways, and not the same sorted; or the same sorted, and not both ways"
	}
	if sum := sumOf(a); sum <= impl.MaxLoad && !impl.FairerOk(impl.FairestOf(len(a), sum), a) {
		return "it is fairer than the fairest one"
	}
	return ""
}

// TestP58 is for pairs of rows, with the same sums, and with other ones.
func TestP58(t *testing.T) {
	t.Parallel()
	told := 0
	for _, pair := range loadPairs() {
		if wrong := wrongPair(pair[0], pair[1]); wrong != "" {
			t.Fatalf("%v, %v: %s", pair[0], pair[1], wrong)
		}
		if wrong := wrongPair(pair[1], pair[0]); wrong != "" {
			t.Fatalf("%v, %v: %s", pair[1], pair[0], wrong)
		}
		if impl.FairerOk(pair[0], pair[1]) {
			told++
		}
	}
	if told < 1000 {
		t.Fatalf("just %d pairs are of a fairer row", told)
	}
}

// TestP58Reached is for rows that are fairer than others: just those that are come to from these, but for their order, by givings from greater loads to such as are at least two less.
func TestP58Reached(t *testing.T) {
	t.Parallel()
	for fewer, bound := range []int{31, 8, 5, 5, 3, 3} {
		rows := slices.DeleteFunc(rowsFrom(0, bound, fewer+1), func(row []int) bool {
			return !slices.Equal(row, sortedBy(row))
		})
		for _, b := range rows {
			reached := reachedFrom(b)
			for _, a := range rows {
				if fairer := impl.FairerOk(a, b); fairer != reached[fixedRow(a)] {
					t.Fatalf("%v, %v: %v", a, b, fairer)
				}
			}
		}
	}
}

// reachedFrom returns all sorted rows that are come to from a sorted row by givings from greater loads to such as are at least two less, the row itself among them.
func reachedFrom(loads []int) map[[impl.MaxPeople]int]bool {
	reached := map[[impl.MaxPeople]int]bool{fixedRow(loads): true}
	open := [][]int{loads}
	for len(open) > 0 {
		row := open[0]
		open = open[1:]
		for from := range row {
			for to := range row {
				if row[from] < row[to]+2 {
					continue
				}
				given, _ := givenBy(row, from, to)
				given = sortedBy(given)
				if key := fixedRow(given); !reached[key] {
					reached[key] = true
					open = append(open, given)
				}
			}
		}
	}
	return reached
}

func TestP58Examples(t *testing.T) {
	for _, told := range []struct {
		a      []int
		b      []int
		fairer bool
		back   bool
	}{
		{[]int{2, 2, 2, 2}, []int{4, 0, 3, 1}, true, false}, {[]int{3, 1, 1, 3}, []int{4, 0, 3, 1}, true, false}, {[]int{4, 1, 3, 0}, []int{4, 0, 3, 1}, true, true},
		// Another sum, or another number of loads.
		{[]int{2, 2, 2, 1}, []int{4, 0, 3, 1}, false, false}, {[]int{2, 2, 2, 3}, []int{4, 0, 3, 1}, false, false}, {[]int{0, 0}, []int{0, 1}, false, false},
		{[]int{4, 4}, []int{4, 0, 3, 1}, false, false}, {[]int{4, 4}, []int{4, 4, 0}, false, false}, {[]int{0}, []int{0, 0}, false, false}, {[]int{2, 2, 2, 2}, []int{8}, false, false},
		// One of the people.
		{[]int{0}, []int{0}, true, true}, {[]int{30}, []int{30}, true, true}, {[]int{5}, []int{6}, false, false}, {[]int{0}, []int{30}, false, false},
		// Loads that are all equal.
		{[]int{3, 3, 3}, []int{3, 3, 3}, true, true}, {[]int{3, 3, 3}, []int{4, 3, 2}, true, false}, {[]int{30, 30, 30, 30, 30, 30}, []int{30, 30, 30, 30, 30, 30}, true, true}, {[]int{0, 0, 0}, []int{0, 0, 0}, true, true},
		// Neither is fairer, though squares and spread may tell them apart.
		{[]int{4, 4, 1}, []int{5, 2, 2}, false, false}, {[]int{3, 3, 0}, []int{4, 1, 1}, false, false}, {[]int{6, 3, 3, 0}, []int{5, 5, 1, 1}, false, false},
		// They differ just in the last but one sum, or in the first one.
		{[]int{5, 3, 3, 1}, []int{5, 3, 4, 0}, true, false}, {[]int{9, 1, 0, 0}, []int{10, 0, 0, 0}, true, false}, {[]int{6, 6, 6, 6, 4, 2}, []int{6, 6, 6, 6, 5, 1}, true, false},
		{[]int{15, 15}, []int{0, 30}, true, false}, {[]int{0, 30}, []int{30, 0}, true, true}, {[]int{5, 5, 5, 5, 5, 5}, []int{0, 0, 0, 0, 0, 30}, true, false},
	} {
		if fairer, back := impl.FairerOk(told.a, told.b), impl.FairerOk(told.b, told.a); fairer != told.fairer || back != told.back {
			t.Errorf("%v, %v: %v, %v", told.a, told.b, fairer, back)
		}
	}
}

// wrongGiving says what is wrong with a giving from one load to another one, or "".
func wrongGiving(loads []int, from int, to int) string {
	given, ok := impl.GivenOn(loads, from, to)
	right, may := givenBy(loads, from, to)
	may = may && from != to
	if !may {
		if given != nil || ok {
			return "it is given"
		}
		return ""
	}
	back, backOk := impl.GivenOn(given, to, from)
	steps, after := impl.StepsToFair(loads), impl.StepsToFair(given)
	switch {
	case !ok || !slices.Equal(given, right) || !impl.LoadsOk(given):
		return "what is given"
	case !backOk || !slices.Equal(back, loads):
		return "what is given back"
	case after < steps-1 || after > steps+1:
		return "its steps"
	case loads[from] >= loads[to]+2 && (!impl.FairerOk(given, loads) || impl.FairerOk(loads, given) || impl.SquaresOf(given) >= impl.SquaresOf(loads)):
		return "it is not fairer"
	}
	return ""
}

// TestP59 is for one duty from each load to each other one.
func TestP59(t *testing.T) {
	t.Parallel()
	for _, loads := range someLoads() {
		for from := range loads {
			for to := range loads {
				if wrong := wrongGiving(loads, from, to); wrong != "" {
					given, ok := impl.GivenOn(loads, from, to)
					t.Fatalf("%v, from %d to %d, %v, %v: %s", loads, from, to, given, ok, wrong)
				}
			}
		}
	}
}

// TestP59Places is for places that are not there.
func TestP59Places(t *testing.T) {
	places := []int{-1 << 63, -100, -6, -2, -1, 0, 1, 2, 3, 4, 5, 6, 7, 31, 64, 1 << 62, 1<<63 - 1}
	for people := 1; people <= impl.MaxPeople; people++ {
		loads := slices.Repeat([]int{7}, people)
		for _, from := range places {
			for _, to := range places {
				right := from >= 0 && from < people && to >= 0 && to < people && from != to
				if given, ok := impl.GivenOn(loads, from, to); ok != right || right != (given != nil) {
					t.Errorf("%v, from %d to %d: %v, %v", loads, from, to, given, ok)
				}
			}
		}
	}
}

func TestP59Examples(t *testing.T) {
	for _, told := range []struct {
		loads []int
		from  int
		to    int
		given []int
	}{
		{[]int{4, 0, 3, 1}, 0, 1, []int{3, 1, 3, 1}}, {[]int{4, 0, 3, 1}, 1, 0, nil}, {[]int{4, 0, 3, 1}, 3, 0, []int{5, 0, 3, 0}}, {[]int{4, 0, 3, 1}, 2, 2, nil}, {[]int{4, 0, 3, 1}, 2, 3, []int{4, 0, 2, 2}},
		// The one who gives has none, or the other one has MaxLoad.
		{[]int{0, 5}, 0, 1, nil}, {[]int{1, 5}, 0, 1, []int{0, 6}}, {[]int{5, 30}, 0, 1, nil}, {[]int{5, 29}, 0, 1, []int{4, 30}}, {[]int{30, 30}, 1, 0, nil}, {[]int{0, 0}, 0, 1, nil}, {[]int{0, 30}, 0, 1, nil}, {[]int{30, 0}, 0, 1, []int{29, 1}},
		// One of the people.
		{[]int{0}, 0, 0, nil}, {[]int{30}, 0, 0, nil}, {[]int{5}, 0, 0, nil}, {[]int{5}, 0, 1, nil}, {[]int{5}, 1, 0, nil}, {[]int{5}, -1, 0, nil}, {[]int{5}, 0, -1, nil},
		// Loads that are all equal.
		{[]int{3, 3, 3}, 0, 2, []int{2, 3, 4}}, {[]int{3, 3, 3}, 2, 1, []int{3, 4, 2}}, {[]int{3, 3, 3}, 1, 1, nil}, {[]int{3, 3, 3}, 3, 0, nil}, {[]int{3, 3, 3}, 0, 3, nil}, {[]int{3, 3, 3}, -1, 2, nil},
		{[]int{0, 6, 12, 18, 24, 30}, 5, 0, []int{1, 6, 12, 18, 24, 29}}, {[]int{0, 6, 12, 18, 24, 30}, 4, 5, nil}, {[]int{0, 6, 12, 18, 24, 30}, 0, 4, nil}, {[]int{0, 6, 12, 18, 24, 30}, 5, 6, nil}, {[]int{0, 6, 12, 18, 24, 30}, 6, 0, nil},
	} {
		if given, ok := impl.GivenOn(told.loads, told.from, told.to); ok != (told.given != nil) || !slices.Equal(given, told.given) {
			t.Errorf("%v, from %d to %d: %v, %v, not %v", told.loads, told.from, told.to, given, ok, told.given)
		}
	}
}

// TestP60 is for the fairest loads of so many people with so many duties, against all or drawn loads with the same sum.
func TestP60(t *testing.T) {
	t.Parallel()
	for people := 1; people <= impl.MaxPeople; people++ {
		for duties := range impl.MaxLoad + 1 {
			fairest := impl.FairestOf(people, duties)
			if !slices.Equal(fairest, fairestBy(people, duties)) {
				t.Fatalf("%d people, %d duties: %v", people, duties, fairest)
			}
			if !slices.Equal(fairest, impl.SortedLoads(fairest)) || sumOf(fairest) != duties || impl.SpreadOf(fairest) > 1 {
				t.Fatalf("%d people, %d duties: %v", people, duties, fairest)
			}
			d := &drawing{seed: uint64(31*people + duties)}
			for range 40 {
				drawn := d.mixed(fairest, 1+d.below(30))
				if !impl.FairerOk(fairest, drawn) {
					t.Fatalf("%v are not as fair as %v", fairest, drawn)
				}
			}
		}
	}
	for _, loads := range someLoads() {
		sum := sumOf(loads)
		if sum <= impl.MaxLoad && !impl.FairerOk(impl.FairestOf(len(loads), sum), loads) {
			t.Fatalf("%v are fairer than the fairest ones", loads)
		}
	}
}

func TestP60Examples(t *testing.T) {
	for _, told := range []struct {
		people  int
		duties  int
		fairest []int
	}{
		{3, 7, []int{3, 2, 2}}, {3, 8, []int{3, 3, 2}}, {3, 9, []int{3, 3, 3}}, {1, 0, []int{0}}, {1, 1, []int{1}}, {1, 30, []int{30}}, {2, 30, []int{15, 15}}, {2, 29, []int{15, 14}}, {2, 1, []int{1, 0}},
		{4, 30, []int{8, 8, 7, 7}}, {5, 3, []int{1, 1, 1, 0, 0}}, {6, 0, []int{0, 0, 0, 0, 0, 0}}, {6, 5, []int{1, 1, 1, 1, 1, 0}}, {6, 6, []int{1, 1, 1, 1, 1, 1}}, {6, 30, []int{5, 5, 5, 5, 5, 5}}, {6, 29, []int{5, 5, 5, 5, 5, 4}},
	} {
		if fairest := impl.FairestOf(told.people, told.duties); !slices.Equal(fairest, told.fairest) {
			t.Errorf("%d people, %d duties: %v, not %v", told.people, told.duties, fairest, told.fairest)
		}
	}
}

// TestP60Others is for numbers of people and of duties that are none.
func TestP60Others(t *testing.T) {
	numbers := []int{-1 << 63, -100, -31, -2, -1, 0, 1, 2, 5, 6, 7, 8, 29, 30, 31, 32, 60, 180, 1 << 32, 1 << 62, 1<<63 - 1}
	for _, people := range numbers {
		for _, duties := range numbers {
			right := people >= 1 && people <= 6 && duties >= 0 && duties <= 30
			if fairest := impl.FairestOf(people, duties); (fairest != nil) != right {
				t.Errorf("%d people, %d duties: %v", people, duties, fairest)
			}
		}
	}
}

// TestP61 is for the steps to fair loads: the giving from the first greatest load to the first least one, and all other ones.
func TestP61(t *testing.T) {
	t.Parallel()
	for _, loads := range someLoads() {
		steps := impl.StepsToFair(loads)
		sorted, fairest, over := sortedBy(loads), fairestBy(len(loads), sumOf(loads)), 0
		for at, load := range sorted {
			over += max(0, load-fairest[at])
		}
		if steps != over {
			t.Fatalf("%v: %d steps, not %d", loads, steps, over)
		}
		for _, given := range givingsOf(loads) {
			if after := impl.StepsToFair(given); after < steps-1 {
				t.Fatalf("%v: %d steps, and %v: %d", loads, steps, given, after)
			}
		}
		if steps == 0 {
			continue
		}
		greatest, least := slices.Index(loads, slices.Max(loads)), slices.Index(loads, slices.Min(loads))
		if given, ok := impl.GivenOn(loads, greatest, least); !ok || impl.StepsToFair(given) != steps-1 {
			t.Fatalf("%v: %d steps, and %v, %v: %d", loads, steps, given, ok, impl.StepsToFair(given))
		}
	}
}

// TestP61Small is for small loads, of which all ways of giving are tried.
func TestP61Small(t *testing.T) {
	t.Parallel()
	for _, loads := range smallLoads() {
		if steps := impl.StepsToFair(loads); steps != stepsBy(loads) {
			t.Fatalf("%v: %d steps, not %d", loads, steps, stepsBy(loads))
		}
	}
}

// TestSharesChangeNothing is for loads, which are not written to, not even behind their ends, and for results, which share no memory.
func TestSharesChangeNothing(t *testing.T) {
	t.Parallel()
	for _, row := range someLoads() {
		room := append(slices.Clone(row), -7, -7, -7)
		before := slices.Clone(room)
		loads := room[:len(row)]
		other := slices.Clone(row)
		impl.LoadsOk(loads)
		impl.SpreadOf(loads)
		impl.SquaresOf(loads)
		impl.FairerOk(loads, other)
		impl.FairerOk(other, loads)
		impl.FairerOk(loads, loads)
		impl.StepsToFair(loads)
		sorted := impl.SortedLoads(loads)
		given, _ := impl.GivenOn(loads, 0, len(loads)-1)
		overwrite(sorted)
		overwrite(given)
		if !slices.Equal(room, before) || !slices.Equal(other, row) {
			t.Fatalf("%v is written to, or shared", row)
		}
		if again := impl.SortedLoads(loads); !slices.Equal(again, sortedBy(row)) {
			t.Fatalf("%v: sorted again %v", row, again)
		}
	}
	overwrite(impl.FairestOf(3, 7))
	if fairest := impl.FairestOf(3, 7); !slices.Equal(fairest, []int{3, 2, 2}) {
		t.Fatal(fairest)
	}
}

// overwrite writes to a result, and to the room behind its end.
func overwrite(row []int) {
	row = row[:cap(row)]
	for at := range row {
		row[at] = 99
	}
}
