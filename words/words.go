// Package words is how strings are read and written: keys, bit strings, numbers, lines and their words.
package words

import (
	"slices"
	"strconv"
	"strings"

	"scanchain/api"
)

const mostDigits = 15

// IsKey reports whether a string is a key.
func IsKey(s string) bool {
	if s == "" || len(s) > api.MaxName || !isSmallLetter(s[0]) {
		return false
	}
	for i := range len(s) {
		if !isKeyByte(s[i]) {
			return false
		}
	}
	return true
}

func isKeyByte(b byte) bool {
	return isSmallLetter(b) || '0' <= b && b <= '9' || b == '-' || b == '_'
}

func isSmallLetter(b byte) bool {
	return 'a' <= b && b <= 'z'
}

// IsBits reports whether a string is a bit string; an empty one is.
func IsBits(s string) bool {
	return strings.Trim(s, "01") == ""
}

// Number returns the number that a word is, and true; false if it is none, or has more than 15 digits.
func Number(word string) (int, bool) {
	if len(strings.TrimPrefix(word, "-")) > mostDigits {
		return 0, false
	}
	n, err := strconv.Atoi(word)
	// Atoi takes a plus, zeros in front and -0 as well: only what would be written counts.
	if err != nil || strconv.Itoa(n) != word {
		return 0, false
	}
	return n, true
}

// Numbers returns the numbers that words are, and true; false if one of them is none.
func Numbers(parts []string) ([]int, bool) {
	numbers := make([]int, len(parts))
	for i, part := range parts {
		n, is := Number(part)
		if !is {
			return nil, false
		}
		numbers[i] = n
	}
	return numbers, true
}

// Lines calls read for each line of a text. It stops at the first line that read does not accept or that is not ended by a line feed, and returns its number and false.
func Lines(text string, read func(line string) bool) (int, bool) {
	for number := 0; text != ""; number++ {
		line, rest, ended := strings.Cut(text, "\n")
		if !ended || !read(line) {
			return number, false
		}
		text = rest
	}
	return 0, true
}

// ReadList reads an element from each line of a text, and checks all of them. With ErrSyntax, the int is the number of the first line that read does not accept or that is not ended by a line feed.
func ReadList[T any](text string, read func(line string) (T, bool), check func(list []T) api.Errno) ([]T, int, api.Errno) {
	if len(text) > api.MaxText {
		return nil, 0, api.ErrLarge
	}
	var list []T
	number, good := Lines(text, func(line string) bool {
		element, is := read(line)
		list = append(list, element)
		return is
	})
	if !good {
		return nil, number, api.ErrSyntax
	}
	if e := check(list); e != api.OK {
		return nil, 0, e
	}
	return list, 0, api.OK
}

// Split returns the words of a line, and true; false if one of them is empty.
func Split(line string) ([]string, bool) {
	parts := strings.Split(line, " ")
	if slices.Contains(parts, "") {
		return nil, false
	}
	return parts, true
}

// Write calls write with a function that writes a line of words with single blanks between, and returns the text; ErrLarge if it has more than MaxText bytes.
func Write(write func(line func(parts ...string))) (string, api.Errno) {
	var text strings.Builder
	write(func(parts ...string) {
		text.WriteString(strings.Join(parts, " "))
		text.WriteByte('\n')
	})
	if text.Len() > api.MaxText {
		return "", api.ErrLarge
	}
	return text.String(), api.OK
}

// Fresh returns a function that reports whether a value was neither given to it before, nor is one of seen.
func Fresh[T comparable](seen ...T) func(T) bool {
	known := map[T]bool{}
	for _, value := range seen {
		known[value] = true
	}
	return func(value T) bool {
		if known[value] {
			return false
		}
		known[value] = true
		return true
	}
}
