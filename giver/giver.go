// Package giver puts a message together from its front on; who writes one embeds a Giver.
package giver

import (
	"pinfold/api"
	"pinfold/be"
	"pinfold/wire"
)

// Giver is what is put so far, and what is known behind that. Behind the first part that is refused it puts nothing more,
// so that who puts a row of parts may ask once, behind all of them.
type Giver struct {
	at      int // where the first byte stands in its message
	put     []byte
	known   []api.Known
	refused bool
}

// From puts from at on, where ks are known.
func From(at int, ks []api.Known) Giver {
	return Giver{at: at, known: ks}
}

// Ok tells whether all parts so far could be put.
func (g *Giver) Ok() bool {
	return !g.refused
}

// Given tells the bytes.
func (g *Giver) Given() string {
	return string(g.put)
}

// Known tells what is known. It is a list of its own as soon as a name is put.
func (g *Giver) Known() []api.Known {
	return g.known
}

// Number puts x in k bytes (layer 1).
func (g *Giver) Number(x int, k int) {
	s, e := be.Put(x, k)
	g.refused = g.refused || e != api.OK
	g.Text(s)
}

// Name puts a name (layer 3).
func (g *Giver) Name(s string) {
	By(g, wire.Put, s)
}

// Text puts bytes as they are.
func (g *Giver) Text(s string) {
	if !g.refused {
		g.put = append(g.put, s...)
	}
}

// Counted puts how many bytes body puts in two bytes, ahead of them. Their room comes first: a name in them is known by its place.
func (g *Giver) Counted(body func()) {
	room := len(g.put)
	g.Number(0, 2)
	from := len(g.put)
	body()
	size, e := be.Put(len(g.put)-from, 2)
	g.refused = g.refused || e != api.OK
	if !g.refused {
		copy(g.put[room:], size)
	}
}

// By puts x as put tells its bytes there (beside them: what is known then).
func By[T any](g *Giver, put func(at int, ks []api.Known, x T) (string, []api.Known, api.Errno), x T) {
	if g.refused {
		return
	}
	s, known, e := put(g.at+len(g.put), g.known, x)
	if e != api.OK {
		g.refused = true
		return
	}
	g.Text(s)
	g.known = known
}
