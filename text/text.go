// Package text has what several layers do with texts.
package text

import "strings"

// Small has small letters in the place of A to Z.
func Small(s string) string {
	b := []byte(s)
	for i, c := range b {
		if c >= 'A' && c <= 'Z' {
			b[i] = c + 'a' - 'A'
		}
	}
	return string(b)
}

// Number reads decimal digits, without a 0 ahead of others, of a number that is no greater than most.
func Number(s string, most uint64) (uint64, bool) {
	if s == "" || s[0] == '0' && len(s) > 1 {
		return 0, false
	}
	var v uint64
	for i := range len(s) {
		if s[i] < '0' || s[i] > '9' {
			return 0, false
		}
		d := uint64(s[i] - '0')
		if d > most || v > (most-d)/10 {
			return 0, false
		}
		v = v*10 + d
	}
	return v, true
}

// QuotedEnd is behind the quoted text that begins at i; the text's end, if that ends nowhere.
func QuotedEnd(s string, i int) int {
	for i++; i < len(s); i++ {
		switch s[i] {
		case '\\':
			i++
		case '"':
			return i + 1
		}
	}
	return len(s)
}

// Says is what a text says: itself, or, if it is one quoted text, what is within.
func Says(s string) string {
	if s == "" || s[0] != '"' || QuotedEnd(s, 0) != len(s) {
		return s
	}
	var out strings.Builder
	for i := 1; i < len(s) && s[i] != '"'; i++ {
		if s[i] == '\\' {
			i++
		}
		if i < len(s) {
			out.WriteByte(s[i])
		}
	}
	return out.String()
}
