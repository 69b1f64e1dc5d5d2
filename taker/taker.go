// Package taker takes a text apart from its front on; who reads a message embeds a Taker.
package taker

import (
	"strings"

	"pinfold/api"
	"pinfold/be"
	"pinfold/wire"
)

// Taker is a text and how far it is taken. Behind the first part that is missing or wrong it takes zero values alone,
// so that who takes a row of parts may ask once, behind all of them.
type Taker struct {
	text   string
	at     int
	failed bool
}

// From takes what stands in text from at on.
func From(text string, at int) Taker {
	return Taker{text: text, at: at, failed: at < 0 || at > len(text)}
}

// Ok tells whether all that was taken so far was there, and as it must be.
func (t *Taker) Ok() bool {
	return !t.failed
}

// At tells where it goes on.
func (t *Taker) At() int {
	return t.at
}

// Left tells how many bytes it may still take.
func (t *Taker) Left() int {
	if t.failed {
		return 0
	}
	return len(t.text) - t.at
}

// Must fails, unless so it is.
func (t *Taker) Must(so bool) {
	if !so {
		t.failed = true
	}
}

// Number takes a number of k bytes (layer 1).
func (t *Taker) Number(k int) int {
	return By(t, func(s string, at int) (int, int, api.Errno) {
		x, e := be.Get(s, at, k)
		return x, at + k, e
	})
}

// Name takes a name (layer 3).
func (t *Taker) Name() string {
	return By(t, wire.Get)
}

// Text takes n bytes.
func (t *Taker) Text(n int) string {
	t.Must(0 <= n && n <= len(t.text)-t.at)
	if t.failed {
		return ""
	}
	from := t.at
	t.at += n
	// New bytes: a piece of the text would hold all of it for as long as the piece is held.
	return strings.Clone(t.text[from:t.at])
}

// By takes what get tells (beside it: where it goes on).
func By[T any](t *Taker, get func(s string, at int) (T, int, api.Errno)) T {
	var none T
	if t.failed {
		return none
	}
	x, end, e := get(t.text, t.at)
	t.Must(e == api.OK)
	if t.failed {
		return none
	}
	t.at = end
	return x
}
