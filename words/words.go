// Package words is how strings are read: keys, bit strings, numbers, lines and their words.
package words

import (
	"slices"
	"strconv"
	"strings"

	"scanchain/api"
)

const mostDigits = 15

// IsKey reports whether a string is a key.
func IsKey(s string) bool {
	if s == "" || len(s) > api.MaxName || !isSmallLetter(s[0]) {
		return false
	}
	for i := range len(s) {
		if !isKeyByte(s[i]) {
			return false
		}
	}
	return true
}

func isKeyByte(b byte) bool {
	return isSmallLetter(b) || '0' <= b && b <= '9' || b == '-' || b == '_'
}

func isSmallLetter(b byte) bool {
	return 'a' <= b && b <= 'z'
}

// IsBits reports whether a string is a bit string; an empty one is.
func IsBits(s string) bool {
	return strings.Trim(s, "01") == ""
}

// Number returns the number that a word is, and true; false if it is none, or has more than 15 digits.
func Number(word string) (int, bool) {
	if len(strings.TrimPrefix(word, "-")) > mostDigits {
		return 0, false
	}
	n, err := strconv.Atoi(word)
	// Atoi takes a plus, zeros in front and -0 as well: only what would be written counts.
	if err != nil || strconv.Itoa(n) != word {
		return 0, false
	}
	return n, true
}

// Lines calls read for each line of a text. It stops at the first line that read does not accept or that is not ended by a line feed, and returns its number and false.
func Lines(text string, read func(line string) bool) (int, bool) {
	for number := 0; text != ""; number++ {
		line, rest, ended := strings.Cut(text, "\n")
		if !ended || !read(line) {
			return number, false
		}
		text = rest
	}
	return 0, true
}

// Split returns the words of a line, and true; false if one of them is empty.
func Split(line string) ([]string, bool) {
	parts := strings.Split(line, " ")
	if slices.Contains(parts, "") {
		return nil, false
	}
	return parts, true
}
