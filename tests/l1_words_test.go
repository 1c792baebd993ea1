package tests

import (
	"slices"
	"strings"
	"testing"

	"loop.example/dutyrosters/impl"
)

// writtenOut returns the word whose runs have so many letters, each run with the letter of the word where it begins.
func writtenOut(word string, runs []int) string {
	out := ""
	for _, many := range runs {
		out += strings.Repeat(word[len(out):len(out)+1], many)
	}
	return out
}

func sumOf(numbers []int) int {
	sum := 0
	for _, number := range numbers {
		sum += number
	}
	return sum
}

func TestWordBound(t *testing.T) {
	if impl.MaxWord != 14 {
		t.Fatal(impl.MaxWord)
	}
	for many := range 40 {
		for _, letter := range eachLetter() {
			if ok := impl.WordOk(strings.Repeat(letter, many)); ok != (many <= 14) {
				t.Errorf("%d times %q: %v", many, letter, ok)
			}
		}
	}
}

// TestP1 is for words without a letter, and for words one behind the other.
func TestP1(t *testing.T) {
	if !impl.WordOk("") {
		t.Error("the empty word")
	}
	for _, word := range someWords() {
		if !impl.WordOk(word) {
			t.Errorf("%q is a word", word)
		}
		if len(word) > 0 && !impl.WordOk(word[:len(word)-1]) {
			t.Errorf("%q without its last letter is a word", word)
		}
		if len(word) <= impl.MaxWord/2 && !impl.WordOk(word+word) {
			t.Errorf("twice %q is a word", word)
		}
	}
	for _, a := range wordsOf(3) {
		for _, b := range wordsUpTo(3) {
			if !impl.WordOk(a + b) {
				t.Errorf("%q behind %q is a word", b, a)
			}
		}
	}
}

func TestP1OtherBytes(t *testing.T) {
	for _, word := range badWords() {
		if impl.WordOk(word) {
			t.Errorf("%q is no word", word)
		}
	}
	for b := range 256 {
		letter := string([]byte{byte(b)})
		right := strings.Contains(letters, letter)
		for at := range 14 {
			text := strings.Repeat("d", at) + letter + strings.Repeat("n", 13-at)
			if impl.WordOk(text) != right {
				t.Errorf("%q: %v", text, !right)
			}
		}
	}
}

// TestP2 is for letters, which are words of one byte.
func TestP2(t *testing.T) {
	texts := append(someWords(), badWords()...)
	texts = append(texts, badLetters()...)
	for b := range 256 {
		texts = append(texts, string([]byte{byte(b)}))
	}
	for _, text := range texts {
		right := text == "r" || text == "d" || text == "n"
		if ok := impl.LetterOk(text); ok != right {
			t.Errorf("%q: %v", text, ok)
		}
		if impl.LetterOk(text) != (impl.WordOk(text) && len(text) == 1) {
			t.Errorf("%q is a letter just if it is a word of one byte", text)
		}
	}
}

// TestP3 is for how often letters are in words.
func TestP3(t *testing.T) {
	for _, word := range someWords() {
		sum := 0
		for _, letter := range eachLetter() {
			many := impl.CountOf(word, letter)
			if many != strings.Count(word, letter) {
				t.Errorf("%q in %q: %d", letter, word, many)
			}
			if impl.CountOf(impl.BackWord(word), letter) != many {
				t.Errorf("%q in %q, back", letter, word)
			}
			for by := range len(word) + 1 {
				rolled, _ := impl.RolledBy(word, by)
				if impl.CountOf(rolled, letter) != many {
					t.Errorf("%q in %q, rolled by %d", letter, word, by)
				}
			}
			sum += many
		}
		if sum != len(word) {
			t.Errorf("%q has %d letters", word, sum)
		}
	}
}

// TestP3P5Others is for counts and longest runs of what is no word or no letter.
func TestP3P5Others(t *testing.T) {
	told := func(word string, letter string) {
		if many := impl.CountOf(word, letter); many != -1 {
			t.Errorf("CountOf(%q, %q) = %d", word, letter, many)
		}
		if many := impl.LongestOf(word, letter); many != -1 {
			t.Errorf("LongestOf(%q, %q) = %d", word, letter, many)
		}
	}
	for _, word := range badWords() {
		for _, letter := range append(eachLetter(), badLetters()...) {
			told(word, letter)
		}
	}
	for _, letter := range badLetters() {
		for _, word := range wordsUpTo(3) {
			told(word, letter)
		}
	}
}

// TestP4 is for runs, which make the word.
func TestP4(t *testing.T) {
	for _, word := range someWords() {
		runs := impl.RunsOf(word)
		if sumOf(runs) != len(word) || len(runs) > 0 && slices.Min(runs) < 1 {
			t.Fatalf("%q has runs %v", word, runs)
		}
		changes := 0
		for at := 1; at < len(word); at++ {
			if word[at] != word[at-1] {
				changes++
			}
		}
		if writtenOut(word, runs) != word || len(runs) != min(len(word), changes+1) {
			t.Errorf("%q has runs %v", word, runs)
		}
		back := impl.RunsOf(impl.BackWord(word))
		slices.Reverse(back)
		if !slices.Equal(back, runs) {
			t.Errorf("%q has runs %v, back %v", word, runs, back)
		}
		longest := 0
		for _, letter := range eachLetter() {
			longest = max(longest, impl.LongestOf(word, letter))
		}
		if longest != slices.Max(append([]int{0}, runs...)) {
			t.Errorf("%q has runs %v, the longest %d", word, runs, longest)
		}
	}
}

func TestP4Examples(t *testing.T) {
	for word, runs := range map[string][]int{
		"": nil, "r": {1}, "d": {1}, "n": {1}, "rr": {2}, "rd": {1, 1}, "rrdnnr": {2, 1, 2, 1},
		"rdr": {1, 1, 1}, "nnnddr": {3, 2, 1}, "rrrrrrrrrrrrrr": {14}, "rdrdrdrdrdrdrd": slices.Repeat([]int{1}, 14),
	} {
		if told := impl.RunsOf(word); !slices.Equal(told, runs) {
			t.Errorf("%q has runs %v", word, told)
		}
	}
	for _, word := range badWords() {
		if told := impl.RunsOf(word); len(told) != 0 {
			t.Errorf("%q has runs %v", word, told)
		}
	}
}

func TestP4NewMemory(t *testing.T) {
	first := impl.RunsOf("rrdnn")
	second := impl.RunsOf("rrdnn")
	first = append(first, 9)
	first[0] = 7
	if !slices.Equal(second, []int{2, 1, 2}) || !slices.Equal(impl.RunsOf("rrdnn"), []int{2, 1, 2}) {
		t.Errorf("runs share memory: %v", second)
	}
}

// TestP5 is for longest runs.
func TestP5(t *testing.T) {
	for _, word := range someWords() {
		for _, letter := range eachLetter() {
			longest := impl.LongestOf(word, letter)
			right := 0
			for strings.Contains(word, strings.Repeat(letter, right+1)) {
				right++
			}
			if longest != right {
				t.Errorf("longest run of %q in %q: %d", letter, word, longest)
			}
			many := impl.CountOf(word, letter)
			if longest > many || (longest == 0) != (many == 0) {
				t.Errorf("longest run of %q in %q: %d of %d", letter, word, longest, many)
			}
			if impl.LongestOf(impl.BackWord(word), letter) != longest {
				t.Errorf("longest run of %q in %q, back", letter, word)
			}
			if len(word) > impl.MaxWord/2 {
				continue
			}
			if twice := impl.LongestOf(word+word, letter); twice < longest || twice > 2*longest {
				t.Errorf("longest run of %q in twice %q: %d", letter, word, twice)
			}
		}
	}
}

func TestP5Examples(t *testing.T) {
	for _, told := range []struct {
		word, letter string
		longest      int
	}{
		{"", "r", 0}, {"r", "r", 1}, {"r", "d", 0}, {"nrnn", "n", 2}, {"nnrn", "n", 2}, {"rr", "d", 0},
		{"rdrdr", "r", 1}, {"dddrnnnnr", "n", 4}, {"dddrnnnnr", "d", 3}, {"nnnnnnnnnnnnnn", "n", 14},
	} {
		if longest := impl.LongestOf(told.word, told.letter); longest != told.longest {
			t.Errorf("longest run of %q in %q: %d", told.letter, told.word, longest)
		}
	}
}

// TestP6 is for words read back.
func TestP6(t *testing.T) {
	for _, word := range someWords() {
		back := impl.BackWord(word)
		if len(back) != len(word) {
			t.Fatalf("%q back is %q", word, back)
		}
		for at := range len(word) {
			if back[at] != word[len(word)-1-at] {
				t.Errorf("%q back is %q", word, back)
			}
		}
		if again := impl.BackWord(back); again != word {
			t.Errorf("%q back twice is %q", word, again)
		}
	}
	for _, word := range badWords() {
		if back := impl.BackWord(word); back != "" {
			t.Errorf("%q back is %q", word, back)
		}
	}
}

// TestP7 is for words that are rolled.
func TestP7(t *testing.T) {
	for _, word := range someWords() {
		for by := range len(word) + 1 {
			rolled, ok := impl.RolledBy(word, by)
			if !ok || len(rolled) != len(word) {
				t.Fatalf("%q rolled by %d: %q, %v", word, by, rolled, ok)
			}
			for at := range len(word) {
				if rolled[at] != word[(at+by)%len(word)] {
					t.Errorf("%q rolled by %d: %q", word, by, rolled)
				}
			}
			if on, ok := impl.RolledBy(rolled, len(word)-by); !ok || on != word {
				t.Errorf("%q rolled by %d, and on: %q, %v", word, by, on, ok)
			}
		}
		if len(word) == 0 {
			continue
		}
		if rolled, ok := impl.RolledBy(word, 1); !ok || rolled[len(rolled)-1] != word[0] {
			t.Errorf("%q rolled by 1: %q, %v", word, rolled, ok)
		}
	}
}

func TestP7Others(t *testing.T) {
	for _, word := range append(wordsUpTo(4), longWords()...) {
		for _, by := range []int{-1 << 63, -15, -2, -1, len(word) + 1, len(word) + 2, 2*len(word) + 1, 1<<63 - 1} {
			if rolled, ok := impl.RolledBy(word, by); ok || rolled != "" {
				t.Errorf("%q rolled by %d: %q, %v", word, by, rolled, ok)
			}
		}
	}
	for _, word := range badWords() {
		for _, by := range []int{-1, 0, 1, len(word), len(word) + 1} {
			if rolled, ok := impl.RolledBy(word, by); ok || rolled != "" {
				t.Errorf("%q rolled by %d: %q, %v", word, by, rolled, ok)
			}
		}
	}
}

// placesOf returns in how many places two words of the same length differ, from the last one on.
func placesOf(a string, b string) int {
	many := 0
	for at := len(a) - 1; at >= 0; at-- {
		if a[at] != b[at] {
			many++
		}
	}
	return many
}

// TestP8 is for differences, which are a distance.
func TestP8(t *testing.T) {
	for many := range 4 {
		words := wordsOf(many)
		for _, a := range words {
			for _, b := range words {
				differ := impl.DifferOf(a, b)
				if differ != placesOf(a, b) || (differ == 0) != (a == b) || differ != impl.DifferOf(b, a) {
					t.Errorf("%q and %q differ in %d", a, b, differ)
				}
				for _, c := range words {
					if differ > impl.DifferOf(a, c)+impl.DifferOf(c, b) {
						t.Errorf("%q and %q are nearer by %q", a, b, c)
					}
				}
			}
		}
	}
	for _, a := range longWords() {
		for _, b := range longWords() {
			if len(a) != len(b) {
				continue
			}
			if differ := impl.DifferOf(a, b); differ != placesOf(a, b) || differ != impl.DifferOf(b, a) {
				t.Errorf("%q and %q differ in %d", a, b, differ)
			}
		}
	}
}

func TestP8Others(t *testing.T) {
	told := func(a string, b string) {
		if differ := impl.DifferOf(a, b); differ != -1 {
			t.Errorf("%q and %q differ in %d", a, b, differ)
		}
		if differ := impl.DifferOf(b, a); differ != -1 {
			t.Errorf("%q and %q differ in %d", b, a, differ)
		}
	}
	for _, a := range wordsUpTo(4) {
		for _, b := range wordsUpTo(4) {
			if len(a) != len(b) {
				told(a, b)
			}
		}
	}
	for _, bad := range badWords() {
		told(bad, bad)
		told(bad, "")
		told(bad, strings.Repeat("r", len(bad)))
	}
}
