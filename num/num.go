// Package num is layer 1: numbers as digits, and the words of a line. See shared/doc/01-num.md.
package num

import (
	"math"
	"strings"
)

const (
	signs = "0123456789abcdef"
	blank = " "
)

// Print: P101.
func Print(n int) string {
	if n < 0 {
		// Negated as a word, since the least int has no counterpart above 0.
		return "-" + digits(-uint64(n), 10)
	}
	return digits(uint64(n), 10)
}

// Parse: P101.
func Parse(s string) (int, bool) {
	rest, below := strings.CutPrefix(s, "-")
	if !below {
		w, ok := take(s, 10, math.MaxInt)
		return int(w), ok
	}
	w, ok := take(rest, 10, math.MaxInt+1)
	if w == 0 {
		// Print never puts - ahead of 0.
		return 0, false
	}
	return int(-w), ok
}

// Hex: P102.
func Hex(w uint64) string {
	return digits(w, 16)
}

// Unhex: P102.
func Unhex(s string) (uint64, bool) {
	return take(s, 16, math.MaxUint64)
}

// Words: P103.
func Words(s string) ([]string, bool) {
	var l []string
	if !eachWord(s, func(word string) { l = append(l, word) }) {
		return nil, false
	}
	return l, true
}

// Join: P103.
func Join(l ...string) string {
	return strings.Join(l, blank)
}

func digits(w, base uint64) string {
	// The greatest word has 20 decimal digits, and fewer in any greater base.
	var room [20]byte
	at := len(room)
next:
	at--
	room[at] = signs[w%base]
	w /= base
	if w > 0 {
		goto next
	}
	return string(room[at:])
}

// take reads just what digits makes of a number up to most, so that each number has one text.
func take(s string, base, most uint64) (uint64, bool) {
	if s == "" || s[0] == '0' && len(s) > 1 {
		return 0, false
	}
	var w uint64
	at := 0
next:
	d := strings.IndexByte(signs[:base], s[at])
	// Asked ahead of the sum, which would wrap round.
	if d < 0 || w > (most-uint64(d))/base {
		return 0, false
	}
	w = w*base + uint64(d)
	at++
	if at < len(s) {
		goto next
	}
	return w, true
}

// eachWord is false when it meets a word without a byte; by then it may have told those ahead of it.
func eachWord(s string, tell func(string)) bool {
	if s == "" {
		return true
	}
next:
	word, rest, more := strings.Cut(s, blank)
	if word == "" {
		return false
	}
	tell(word)
	if more {
		s = rest
		goto next
	}
	return true
}
