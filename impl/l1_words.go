package impl

import (
	"iter"
	"slices"
	"strings"
)

// MaxWord is the maximum number of letters of a word.
const MaxWord = 14

// allLetters has the letters of words in their order.
const allLetters = "rdn"

// WordOk reports whether a text of at most MaxWord bytes has just the letters r, d and n.
func WordOk(word string) bool {
	if len(word) > MaxWord {
		return false
	}
	for at := range len(word) {
		if strings.IndexByte(allLetters, word[at]) < 0 {
			return false
		}
	}
	return true
}

// LetterOk reports whether a text is one of the letters r, d and n alone.
func LetterOk(letter string) bool {
	return len(letter) == 1 && WordOk(letter)
}

// CountOf returns how often a letter (LetterOk) is in a word (WordOk); -1 for others.
func CountOf(word string, letter string) int {
	if !WordOk(word) || !LetterOk(letter) {
		return -1
	}
	return countWhere([]byte(word), func(_ int, l byte) bool {
		return l == letter[0]
	})
}

// countWhere returns how many elements of a row hold, each told with its place.
func countWhere[E any](row []E, holds func(at int, element E) bool) int {
	many := 0
	for at, element := range row {
		if holds(at, element) {
			many++
		}
	}
	return many
}

// runsIn yields the runs of a word in order, each as its letter and how many letters it has.
func runsIn(word string) iter.Seq2[byte, int] {
	return func(yield func(letter byte, many int) bool) {
		begin := 0
		for begin < len(word) {
			end := begin + 1
			for end < len(word) && word[end] == word[begin] {
				end++
			}
			if !yield(word[begin], end-begin) {
				return
			}
			begin = end
		}
	}
}

// RunsOf returns how many letters each run of a word (WordOk) has, from the first one on: a longest row of equal letters beside each other; nil for others.
func RunsOf(word string) []int {
	if !WordOk(word) {
		return nil
	}
	var runs []int
	for _, many := range runsIn(word) {
		runs = append(runs, many)
	}
	return runs
}

// LongestOf returns how many letters the longest run of a letter (LetterOk) in a word (WordOk) has, 0 if it is not in it; -1 for others.
func LongestOf(word string, letter string) int {
	if !WordOk(word) || !LetterOk(letter) {
		return -1
	}
	longest := 0
	for l, many := range runsIn(word) {
		if l == letter[0] {
			longest = max(longest, many)
		}
	}
	return longest
}

// BackWord returns a word (WordOk) from its last letter to its first one; "" for others.
func BackWord(word string) string {
	if !WordOk(word) {
		return ""
	}
	back := []byte(word)
	slices.Reverse(back)
	return string(back)
}

// RolledBy returns a word (WordOk) with so many letters, from 0 up to all, taken from its begin and put behind the others, and true; "" and false for others.
func RolledBy(word string, by int) (string, bool) {
	if !WordOk(word) || by < 0 || by > len(word) {
		return "", false
	}
	return word[by:] + word[:by], true
}

// DifferOf returns in how many places two words (WordOk) of the same length differ; -1 for others.
func DifferOf(a string, b string) int {
	if !WordOk(a) || !WordOk(b) || len(a) != len(b) {
		return -1
	}
	return countWhere([]byte(a), func(at int, l byte) bool {
		return l != b[at]
	})
}
