package tests

import (
	"slices"
	"strings"
	"testing"

	"loop.example/dutyrosters/impl"
)

// drawnWords returns words for machines: all of at most 4 letters, and some longer ones.
func drawnWords() []string {
	return append(wordsUpTo(4), longWords()[:40]...)
}

func TestMachineBound(t *testing.T) {
	if impl.MaxStates != 48 {
		t.Fatal(impl.MaxStates)
	}
	for states := 1; states < 60; states++ {
		for _, m := range []impl.Machine{cycle(states), chain(states)} {
			if ok := impl.MachineOk(m); ok != (states <= 48) {
				t.Errorf("%d states: %v", states, ok)
			}
		}
	}
}

// TestP9 is for machines, above all those of one state.
func TestP9(t *testing.T) {
	for _, ends := range []string{"0", "1"} {
		if m := made(ends, -1, -1, -1); !impl.MachineOk(m) {
			t.Errorf("%v is a machine", m)
		}
	}
	for _, m := range someMachines() {
		if !impl.MachineOk(m) {
			t.Errorf("%v is a machine", m)
		}
		if m.States > 40 {
			continue
		}
		for at := range m.Next {
			for to := -3; to <= m.States+2; to++ {
				x := cloned(m)
				x.Next[at] = to
				if impl.MachineOk(x) != (to >= -1 && to < m.States) {
					t.Fatalf("%v with %d at %d", m, to, at)
				}
			}
		}
	}
}

func TestP9Others(t *testing.T) {
	for _, m := range badMachines() {
		if impl.MachineOk(m) {
			t.Errorf("%v is no machine", m)
		}
	}
}

// TestP10 is for words that are read letter by letter.
func TestP10(t *testing.T) {
	words := drawnWords()
	for _, m := range someMachines() {
		if state := impl.StateAfter(m, ""); state != 0 {
			t.Errorf("%v by the empty word: %d", m, state)
		}
		for _, word := range words {
			state := impl.StateAfter(m, word)
			if state != goesTo(m, 0, word) {
				t.Fatalf("%v by %q: %d", m, word, state)
			}
			if state != -1 || len(word) == impl.MaxWord {
				continue
			}
			for _, letter := range eachLetter() {
				if further := impl.StateAfter(m, word+letter); further != -1 {
					t.Fatalf("%v stops by %q, but not by %q: %d", m, word, word+letter, further)
				}
			}
		}
	}
}

func TestP10Others(t *testing.T) {
	for _, m := range badMachines() {
		for _, word := range append(badWords(), "", "r", "d", "n", "rdn") {
			if state := impl.StateAfter(m, word); state != -2 {
				t.Errorf("%v by %q: %d", m, word, state)
			}
		}
	}
	for _, m := range plainMachines() {
		for _, word := range append(badWords(), "nnx", "rrx", "ddx") {
			if state := impl.StateAfter(m, word); state != -2 {
				t.Errorf("%v by %q: %d", m, word, state)
			}
		}
	}
}

// TestP11 is for words that are taken, by the trimmed and the least machine as well.
func TestP11(t *testing.T) {
	words := drawnWords()
	for _, m := range someMachines() {
		trimmed, least := impl.TrimmedMachine(m), impl.LeastMachine(m)
		if impl.TakesOk(m, "") != m.Ends[0] {
			t.Errorf("%v, the empty word", m)
		}
		for _, word := range words {
			right := takes(m, word)
			if impl.TakesOk(m, word) != right {
				t.Fatalf("%v, %q: %v", m, word, !right)
			}
			if impl.TakesOk(trimmed, word) != right || impl.TakesOk(least, word) != right {
				t.Fatalf("%v, trimmed %v, least %v, %q", m, trimmed, least, word)
			}
		}
	}
}

func TestP11Others(t *testing.T) {
	for _, m := range badMachines() {
		for _, word := range append(badWords(), "", "r", "d", "n", "rdn") {
			if impl.TakesOk(m, word) {
				t.Errorf("%v takes %q", m, word)
			}
		}
	}
	for _, word := range badWords() {
		for _, m := range []impl.Machine{takesAll(), takesNone(), made("11", 1, 1, 1, 0, 0, 0)} {
			if impl.TakesOk(m, word) {
				t.Errorf("%v takes %q", m, word)
			}
		}
	}
}

// TestP12 is for trimmed machines.
func TestP12(t *testing.T) {
	for _, m := range someMachines() {
		trimmed := impl.TrimmedMachine(m)
		if !impl.MachineOk(trimmed) || trimmed.States > m.States {
			t.Fatalf("%v, trimmed %v", m, trimmed)
		}
		if !isTrimmedOf(trimmed, m) {
			t.Fatalf("%v, trimmed %v", m, trimmed)
		}
		if again := impl.TrimmedMachine(trimmed); !equalMachines(again, trimmed) {
			t.Fatalf("%v, trimmed %v, and again %v", m, trimmed, again)
		}
		if !impl.SameOk(m, trimmed) || !sameTaken(m, trimmed) {
			t.Fatalf("%v, trimmed %v, takes others", m, trimmed)
		}
	}
}

// TestP12Examples has machines that take nothing, and states that are left out or numbered anew.
func TestP12Examples(t *testing.T) {
	for _, told := range []struct{ m, trimmed impl.Machine }{
		{made("0", 0, 0, 0), takesNone()},
		{made("0", -1, 0, -1), takesNone()},
		{made("01", 0, 0, 0, 1, 1, 1), takesNone()},
		{made("00", 1, 1, 1, 0, 0, 0), takesNone()},
		{made("001", 1, 0, 1, 1, 0, 1, 0, 1, 2), takesNone()},
		{takesEmpty(), takesEmpty()},
		{made("10", 1, 1, 1, 1, 1, 1), takesEmpty()},
		{made("11", -1, -1, -1, 0, 0, 0), takesEmpty()},
		{made("10", 1, 1, 1, 0, -1, -1), made("10", 1, 1, 1, 0, -1, -1)},
		{made("01", 0, -1, 1, -1, -1, -1), made("01", 0, -1, 1, -1, -1, -1)},
		{made("110", 0, 1, -1, 0, 2, -1, 2, 2, 2), made("11", 0, 1, -1, 0, -1, -1)},
		{made("0011", 3, 2, 1, -1, -1, 2, -1, -1, -1, -1, 0, -1), made("0110", 1, 2, 3, -1, 0, -1, -1, -1, -1, -1, -1, 2)},
		{made("0001", 3, 2, 1, 3, 3, 3, 2, 2, 2, -1, -1, -1), made("010", 1, -1, 2, -1, -1, -1, 1, 1, 1)},
		{made("11", 1, 1, 1, 0, 0, 0), made("11", 1, 1, 1, 0, 0, 0)},
	} {
		if trimmed := impl.TrimmedMachine(told.m); !equalMachines(trimmed, told.trimmed) {
			t.Errorf("%v, trimmed %v", told.m, trimmed)
		}
	}
	for _, states := range []int{15, 16, 47, 48} {
		if trimmed := impl.TrimmedMachine(chain(states)); !equalMachines(trimmed, chain(states)) {
			t.Errorf("words of any length lead on: %v", trimmed)
		}
	}
}

func TestP12P13Others(t *testing.T) {
	for _, m := range badMachines() {
		if x := impl.TrimmedMachine(m); !isNothing(x) {
			t.Errorf("%v, trimmed %v", m, x)
		}
		if x := impl.LeastMachine(m); !isNothing(x) {
			t.Errorf("%v, least %v", m, x)
		}
	}
}

// TestP13 is for least machines.
func TestP13(t *testing.T) {
	d := &drawing{seed: 13}
	for _, m := range someMachines() {
		least := impl.LeastMachine(m)
		if !impl.MachineOk(least) || least.States > impl.TrimmedMachine(m).States {
			t.Fatalf("%v, least %v", m, least)
		}
		if !isLeast(least) || !sameTaken(m, least) {
			t.Fatalf("%v, least %v", m, least)
		}
		if again := impl.LeastMachine(least); !equalMachines(again, least) {
			t.Fatalf("%v, least %v, and again %v", m, least, again)
		}
		if m.States > 12 {
			continue
		}
		if x := d.shuffled(m, d.below(20)); !equalMachines(impl.LeastMachine(x), least) {
			t.Fatalf("%v, least %v, but %v of %v", m, least, impl.LeastMachine(x), x)
		}
	}
}

func TestP13Examples(t *testing.T) {
	for _, told := range []struct{ m, least impl.Machine }{
		{made("0", 0, 0, 0), takesNone()},
		{made("000", 1, 2, 0, 2, 1, 0, 0, 0, 0), takesNone()},
		{made("11", 1, 1, 1, 0, 0, 0), takesAll()},
		{made("111", 1, 2, 0, 2, 1, 0, 0, 0, 0), takesAll()},
		{made("100", 1, 2, 1, 2, 1, 2, 1, 1, 2), takesEmpty()},
		{made("0011", 1, 2, 3, 2, 3, 1, -1, -1, -1, -1, -1, -1), made("001", 1, 2, 2, 2, 2, 1, -1, -1, -1)},
		{made("0011", 2, 1, 3, 3, 2, 2, -1, -1, -1, -1, -1, -1), made("010", 1, 2, 1, -1, -1, -1, 1, 1, 1)},
		{made("1010", 1, 1, 1, 2, 2, 2, 3, 3, 3, 0, 0, 0), cycle(2)},
		{made("10000", 1, 2, 3, 4, 0, -1, 4, 0, -1, -1, -1, 0, 4, 4, 4), made("100", 1, 1, 2, -1, 0, -1, -1, -1, 0)},
		{chain(48), chain(48)}, {cycle(48), cycle(48)}, {wheel(47), wheel(47)},
	} {
		if least := impl.LeastMachine(told.m); !equalMachines(least, told.least) {
			t.Errorf("%v, least %v", told.m, least)
		}
	}
}

// TestP14 is for machines that take the same.
func TestP14(t *testing.T) {
	words := wordsUpTo(5)
	machines := fewMachines()
	for _, m := range machines {
		for _, k := range machines {
			same := sameTaken(m, k)
			if impl.SameOk(m, k) != same {
				t.Fatalf("%v and %v take the same: %v", m, k, same)
			}
			notM, okM := impl.NotMachine(m)
			notK, okK := impl.NotMachine(k)
			onlyM, okOnlyM := impl.BothMachines(m, notK)
			onlyK, okOnlyK := impl.BothMachines(k, notM)
			if !okM || !okK || !okOnlyM || !okOnlyK {
				t.Fatalf("%v and %v", m, k)
			}
			_, byM := impl.ShortestTaken(onlyM)
			_, byK := impl.ShortestTaken(onlyK)
			if same && (byM || byK) || !same && !byM && !byK {
				t.Fatalf("%v and %v, a word that one takes alone", m, k)
			}
			if !same {
				continue
			}
			for _, word := range words {
				if impl.TakesOk(m, word) != impl.TakesOk(k, word) {
					t.Fatalf("%v and %v, %q", m, k, word)
				}
			}
		}
	}
}

// TestP14LongWords has machines that differ in words longer than MaxWord alone.
func TestP14LongWords(t *testing.T) {
	for _, states := range []int{16, 20, 48} {
		if impl.SameOk(chain(states), takesNone()) || impl.SameOk(takesNone(), chain(states)) || impl.SameOk(chain(states), chain(states-1)) {
			t.Errorf("chain of %d states", states)
		}
		if impl.SameOk(cycle(states), takesEmpty()) || impl.SameOk(cycle(states), cycle(states-1)) || !impl.SameOk(cycle(states), cycle(states)) {
			t.Errorf("cycle of %d states", states)
		}
	}
	d := &drawing{seed: 14}
	for _, m := range drawnMachines(200, 40) {
		x := d.shuffled(m, d.below(8))
		if !impl.SameOk(m, x) || !impl.SameOk(x, m) {
			t.Errorf("%v and %v take the same", m, x)
		}
		x.Ends[d.below(x.States)] = true
		if same := sameTaken(m, x); impl.SameOk(m, x) != same || impl.SameOk(x, m) != same {
			t.Errorf("%v and %v take the same: %v", m, x, same)
		}
	}
}

func TestP14Others(t *testing.T) {
	for _, bad := range badMachines() {
		for _, m := range append(badMachines(), takesNone(), takesAll(), bad) {
			if impl.SameOk(bad, m) || impl.SameOk(m, bad) {
				t.Errorf("%v and %v", bad, m)
			}
		}
	}
}

// putTogether is BothMachines or EitherMachine, with what it is to take.
type putTogether struct {
	name string
	of   func(a impl.Machine, b impl.Machine) (impl.Machine, bool)
	ends func(a bool, b bool) bool
}

func bothAndEither() []putTogether {
	return []putTogether{
		{"both", impl.BothMachines, func(a bool, b bool) bool { return a && b }},
		{"either", impl.EitherMachine, func(a bool, b bool) bool { return a || b }},
	}
}

// wrongTogether says what is wrong with what is made of two machines, or "".
func (p putTogether) wrongTogether(a impl.Machine, b impl.Machine) string {
	x, ok := p.of(a, b)
	if !ok {
		if !isNothing(x) {
			return "a machine beside false"
		}
		if residuals(a, b, p.ends) <= impl.MaxStates {
			return "false"
		}
		return ""
	}
	if !isLeast(x) {
		return "not least"
	}
	for _, at := range tuples(a, b, x) {
		if isEnd(x, at[2]) != p.ends(isEnd(a, at[0]), isEnd(b, at[1])) {
			return "takes others"
		}
	}
	if other, ok := p.of(b, a); !ok || !equalMachines(x, other) {
		return "exchanged it is another one"
	}
	return ""
}

// TestP15P16 is for what both of two machines take, and for what either takes.
func TestP15P16(t *testing.T) {
	few := fewMachines()
	large := slices.Concat(drawnMachines(30, 20), plainMachines())
	for _, p := range bothAndEither() {
		for _, machines := range [][]impl.Machine{few, large} {
			for _, a := range machines {
				for _, b := range machines {
					if wrong := p.wrongTogether(a, b); wrong != "" {
						t.Fatalf("%s of %v and %v: %s", p.name, a, b, wrong)
					}
				}
			}
		}
		for _, m := range someMachines() {
			if x, ok := p.of(m, m); !ok || !equalMachines(x, impl.LeastMachine(m)) {
				t.Fatalf("%s of %v and itself: %v, %v", p.name, m, x, ok)
			}
		}
	}
}

// TestP15P16Words is for drawn words, and for either by not and both.
func TestP15P16Words(t *testing.T) {
	words := drawnWords()
	machines := fewMachines()
	for at, a := range machines {
		for _, b := range machines[:at/2+1] {
			both, _ := impl.BothMachines(a, b)
			either, _ := impl.EitherMachine(a, b)
			for _, word := range words {
				byA, byB := impl.TakesOk(a, word), impl.TakesOk(b, word)
				if impl.TakesOk(both, word) != (byA && byB) || impl.TakesOk(either, word) != (byA || byB) {
					t.Fatalf("%v and %v, %q", a, b, word)
				}
			}
			notA, _ := impl.NotMachine(a)
			notB, _ := impl.NotMachine(b)
			neither, _ := impl.BothMachines(notA, notB)
			if x, ok := impl.NotMachine(neither); !ok || !equalMachines(x, either) {
				t.Fatalf("%v and %v: either %v, not neither %v", a, b, either, x)
			}
		}
	}
}

func TestP15P16Edges(t *testing.T) {
	for _, m := range someMachines() {
		least := impl.LeastMachine(m)
		for _, told := range []struct {
			of       func(a impl.Machine, b impl.Machine) (impl.Machine, bool)
			k, right impl.Machine
		}{
			{impl.BothMachines, takesNone(), takesNone()}, {impl.BothMachines, takesAll(), least},
			{impl.EitherMachine, takesNone(), least}, {impl.EitherMachine, takesAll(), takesAll()},
		} {
			if x, ok := told.of(m, told.k); !ok || !equalMachines(x, told.right) {
				t.Fatalf("%v and %v: %v, %v", m, told.k, x, ok)
			}
		}
		empty := takesNone()
		if m.Ends[0] {
			empty = takesEmpty()
		}
		if x, ok := impl.BothMachines(m, takesEmpty()); !ok || !equalMachines(x, empty) {
			t.Fatalf("%v and the empty word: %v, %v", m, x, ok)
		}
	}
}

// TestP15P16TooMany is for machines of which more than MaxStates states are made, or just as many.
func TestP15P16TooMany(t *testing.T) {
	for _, told := range []struct {
		a, b, both int
	}{
		{6, 8, 24}, {3, 16, 48}, {16, 3, 48}, {5, 9, 45}, {7, 7, 7}, {24, 16, 48}, {48, 48, 48}, {48, 6, 48},
		{7, 8, 0}, {48, 47, 0}, {7, 9, 0}, {5, 10, 10}, {32, 3, 0}, {48, 32, 0}, {2, 25, 0},
	} {
		x, ok := impl.BothMachines(cycle(told.a), cycle(told.b))
		if told.both == 0 && (ok || !isNothing(x)) {
			t.Errorf("cycles of %d and %d: %v, %v", told.a, told.b, x, ok)
		}
		if told.both > 0 && (!ok || !equalMachines(x, cycle(told.both))) {
			t.Errorf("cycles of %d and %d: %v, %v", told.a, told.b, x, ok)
		}
	}
	for _, told := range [][3]int{{3, 16, 48}, {5, 9, 45}, {7, 8, 0}, {47, 48, 0}, {2, 25, 0}, {1, 48, 1}, {6, 48, 6}} {
		x, ok := impl.EitherMachine(cycle(told[0]), cycle(told[1]))
		if ok != (told[2] > 0) || x.States != told[2] || !ok && !isNothing(x) {
			t.Errorf("cycles of %d or %d: %v, %v", told[0], told[1], x, ok)
		}
	}
	// Many pairs on the way are no matter if the least machine has few states.
	a, b := cycle(47), cycle(48)
	a.Ends[0], b.Ends[0] = false, false
	if x, ok := impl.BothMachines(a, b); !ok || !equalMachines(x, takesNone()) {
		t.Errorf("nothing: %v, %v", x, ok)
	}
	for state := range a.Ends {
		a.Ends[state] = true
	}
	if x, ok := impl.EitherMachine(a, cycle(48)); !ok || !equalMachines(x, takesAll()) {
		t.Errorf("all: %v, %v", x, ok)
	}
	if x, ok := impl.BothMachines(a, cycle(48)); !ok || !equalMachines(x, cycle(48)) {
		t.Errorf("cycle of 48: %v, %v", x, ok)
	}
}

func TestP15P16Others(t *testing.T) {
	for _, p := range bothAndEither() {
		for _, bad := range badMachines() {
			for _, m := range []impl.Machine{takesNone(), takesAll(), cycle(7), bad, {}} {
				if x, ok := p.of(bad, m); ok || !isNothing(x) {
					t.Errorf("%s of %v and %v: %v, %v", p.name, bad, m, x, ok)
				}
				if x, ok := p.of(m, bad); ok || !isNothing(x) {
					t.Errorf("%s of %v and %v: %v, %v", p.name, m, bad, x, ok)
				}
			}
		}
	}
}

// TestP17 is for what is not taken.
func TestP17(t *testing.T) {
	words := drawnWords()
	for _, m := range someMachines() {
		x, ok := impl.NotMachine(m)
		if !ok {
			if m.States < impl.MaxStates || !isNothing(x) || impl.LeastMachine(m).States < impl.MaxStates {
				t.Fatalf("not %v: %v, %v", m, x, ok)
			}
			continue
		}
		if !isLeast(x) {
			t.Fatalf("not %v: %v is not least", m, x)
		}
		for _, at := range tuples(m, x) {
			if isEnd(m, at[0]) == isEnd(x, at[1]) {
				t.Fatalf("not %v: %v", m, x)
			}
		}
		for _, word := range words {
			if impl.TakesOk(m, word) == impl.TakesOk(x, word) {
				t.Fatalf("not %v: %v, %q", m, x, word)
			}
		}
		if again, ok := impl.NotMachine(x); !ok || !equalMachines(again, impl.LeastMachine(m)) {
			t.Fatalf("not %v: %v, not of it %v, %v", m, x, again, ok)
		}
	}
}

func TestP17Examples(t *testing.T) {
	d := &drawing{seed: 17}
	for _, told := range []struct{ m, not impl.Machine }{
		{takesNone(), takesAll()}, {takesAll(), takesNone()}, {made("0", 0, 0, 0), takesAll()},
		{made("11", 1, 1, 1, 0, 0, 0), takesNone()},
		{takesEmpty(), made("01", 1, 1, 1, 1, 1, 1)}, {made("01", 1, 1, 1, 1, 1, 1), takesEmpty()},
		{made("1", 0, -1, -1), made("01", 0, 1, 1, 1, 1, 1)}, {cycle(2), wheel(2)}, {wheel(2), cycle(2)},
		{made("01", -1, 1, -1, -1, -1, -1), made("110", 1, 2, 1, 1, 1, 1, 1, 1, 1)},
		{d.shuffled(takesNone(), 47), takesAll()}, {d.shuffled(takesEmpty(), 47), made("01", 1, 1, 1, 1, 1, 1)},
	} {
		if x, ok := impl.NotMachine(told.m); !ok || !equalMachines(x, told.not) {
			t.Errorf("not %v: %v, %v", told.m, x, ok)
		}
	}
	if x, ok := impl.NotMachine(chain(48)); ok || !isNothing(x) {
		t.Errorf("49 states: %v, %v", x, ok)
	}
	if x, ok := impl.NotMachine(chain(47)); !ok || x.States != 48 || !impl.TakesOk(x, "") {
		t.Errorf("48 states: %v, %v", x, ok)
	}
	if x, ok := impl.NotMachine(cycle(48)); !ok || x.States != 48 {
		t.Errorf("no letter stops: %v, %v", x, ok)
	}
	for _, bad := range badMachines() {
		if x, ok := impl.NotMachine(bad); ok || !isNothing(x) {
			t.Errorf("not %v: %v, %v", bad, x, ok)
		}
	}
}

// TestP18 is for shortest words.
func TestP18(t *testing.T) {
	words := wordsUpTo(4)
	for _, m := range someMachines() {
		word, ok := impl.ShortestTaken(m)
		if right, is := shortestBy(m, impl.MaxWord); ok != is || word != right {
			t.Fatalf("%v takes %q, %v, first %q, %v", m, right, is, word, ok)
		}
		if ok && !impl.TakesOk(m, word) {
			t.Fatalf("%v does not take %q", m, word)
		}
		if !ok && m.States <= impl.MaxWord && !equalMachines(impl.LeastMachine(m), takesNone()) {
			t.Fatalf("%v takes some word", m)
		}
		if ok && equalMachines(impl.LeastMachine(m), takesNone()) {
			t.Fatalf("%v takes no word", m)
		}
		for _, shorter := range words {
			if impl.TakesOk(m, shorter) && (!ok || len(shorter) < len(word)) {
				t.Fatalf("%v takes %q, not first %q, %v", m, shorter, word, ok)
			}
		}
	}
}

func TestP18Examples(t *testing.T) {
	for _, told := range []struct {
		m    impl.Machine
		word string
		ok   bool
	}{
		{takesNone(), "", false}, {made("0", 0, 0, 0), "", false}, {takesEmpty(), "", true}, {takesAll(), "", true},
		{made("01", -1, -1, -1, 1, 1, 1), "", false}, {made("01", 1, 1, 1, -1, -1, -1), "r", true},
		{made("01", -1, 1, 1, -1, -1, -1), "d", true}, {made("01", 0, 0, 1, -1, -1, -1), "n", true},
		{made("0001", 1, -1, 2, -1, -1, 3, 3, -1, -1, -1, -1, -1), "rn", true},
		{made("0001", 1, 2, -1, -1, -1, -1, -1, 3, 3, -1, -1, -1), "dd", true},
		{made("0001", 2, -1, 1, 3, 3, 3, -1, -1, 3, -1, -1, -1), "rn", true},
		{chain(2), "n", true}, {chain(14), strings.Repeat("n", 13), true}, {chain(15), strings.Repeat("n", 14), true},
		{chain(16), "", false}, {chain(48), "", false}, {wheel(15), strings.Repeat("r", 14), true}, {wheel(16), "", false},
	} {
		if word, ok := impl.ShortestTaken(told.m); ok != told.ok || word != told.word {
			t.Errorf("%v: %q, %v", told.m, word, ok)
		}
	}
	for _, bad := range badMachines() {
		if word, ok := impl.ShortestTaken(bad); ok || word != "" {
			t.Errorf("%v: %q, %v", bad, word, ok)
		}
	}
}

// spoiled writes over all memory of a machine, with its spare capacity.
func spoiled(m impl.Machine) {
	next, ends := m.Next[:cap(m.Next)], m.Ends[:cap(m.Ends)]
	for at := range next {
		next[at] = 99
	}
	for at := range ends {
		ends[at] = !ends[at]
	}
}

func TestMachinesNewMemory(t *testing.T) {
	for _, m := range slices.Concat(plainMachines(), drawnMachines(40, 20)) {
		before := cloned(m)
		k := cycle(2)
		for _, of := range []func() impl.Machine{
			func() impl.Machine { return impl.TrimmedMachine(m) },
			func() impl.Machine { return impl.LeastMachine(m) },
			func() impl.Machine { x, _ := impl.BothMachines(m, k); return x },
			func() impl.Machine { x, _ := impl.EitherMachine(k, m); return x },
			func() impl.Machine { x, _ := impl.BothMachines(m, m); return x },
			func() impl.Machine { x, _ := impl.NotMachine(m); return x },
		} {
			first, second := of(), of()
			right := cloned(second)
			spoiled(first)
			if !equalMachines(second, right) || !equalMachines(m, before) || !equalMachines(k, cycle(2)) {
				t.Fatalf("%v shares memory", before)
			}
		}
		impl.SameOk(m, k)
		impl.ShortestTaken(m)
		if !equalMachines(m, before) {
			t.Fatalf("%v is written to", before)
		}
	}
}
