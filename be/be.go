// Package be: see DOC.md, chapter 1.
package be

import (
	"pinfold/api"
)

// Put: chapter 1.
func Put(x int, k int) (string, api.Errno) {
	if !isWidth(k) || !fits(x, k) {
		return "", api.ErrBeForm
	}
	b := make([]byte, k)
	for i := range b {
		b[i] = byte(x >> (8 * (k - 1 - i)))
	}
	return string(b), api.OK
}

// Get: chapter 1.
func Get(s string, at int, k int) (int, api.Errno) {
	if !isWidth(k) || at < 0 {
		return 0, api.ErrBeForm
	}
	// Not at+k > len(s): that sum goes round for a great at.
	if at > len(s)-k {
		return 0, api.ErrBeEnd
	}
	x := 0
	for i := range k {
		x = x<<8 | int(s[at+i])
	}
	return x, api.OK
}

// isWidth: is k a count of bytes that a number may take.
func isWidth(k int) bool {
	return k == 1 || k == 2 || k == 4
}

// fits: is x a number of k bytes. A negative one keeps its sign when shifted down, so it is never 0 behind it.
func fits(x int, k int) bool {
	return x>>(8*k) == 0
}
