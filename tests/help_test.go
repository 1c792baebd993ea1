package tests

import "strings"

const letters = "rdn"

// wordsOf returns all words of just so many letters, in the order r, d, n.
func wordsOf(many int) []string {
	words := []string{""}
	for range many {
		var longer []string
		for _, word := range words {
			for _, letter := range letters {
				longer = append(longer, word+string(letter))
			}
		}
		words = longer
	}
	return words
}

// wordsUpTo returns all words of at most so many letters, the shorter ones first.
func wordsUpTo(most int) []string {
	var words []string
	for many := range most + 1 {
		words = append(words, wordsOf(many)...)
	}
	return words
}

// longWords returns some words of 7 to 14 letters, among them those of one run and of runs of one letter.
func longWords() []string {
	words := []string{
		"rrrrrrrrrrrrrr", "dddddddddddddd", "nnnnnnnnnnnnnn", "rdrdrdrdrdrdrd", "rdnrdnrdnrdnrd",
		"rrrrrrrddddddd", "rrddnnrrddnnrr", "nrrrrrrrrrrrrn", "rrrrrrrrrrrrrd", "dnnnnnnnnnnnnn",
	}
	seed := 1
	for at := range 120 {
		var word []byte
		for range 7 + at%8 {
			seed = (seed*1103 + 12345) % 65536
			word = append(word, letters[seed/256%3])
		}
		words = append(words, string(word))
	}
	return words
}

// someWords returns all words of at most 6 letters, and longWords.
func someWords() []string {
	return append(wordsUpTo(6), longWords()...)
}

// badWords returns texts that are no words.
func badWords() []string {
	return []string{
		"x", "R", "D", "N", " ", "\x00", "\xff", "r d", "rx", "xr", "rxd", "rrdnn ", " rd", "rd\n", "řd", "nñ",
		strings.Repeat("r", 15), strings.Repeat("d", 15), strings.Repeat("rdn", 5), strings.Repeat("n", 200),
		"rdnrdnrdnrdnrx",
	}
}

// badLetters returns texts that are no letters.
func badLetters() []string {
	return []string{"", "x", "R", "0", " ", "rd", "rr", "dd", "nnn", "r ", "\xff", "ř", "rrrrrrrrrrrrrrr"}
}

// eachLetter returns the letters as texts.
func eachLetter() []string {
	return []string{"r", "d", "n"}
}
