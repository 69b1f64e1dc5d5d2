// Package anew writes leases once more, in memory of their own: what is answered shares none with what was handed in.
package anew

import (
	"strings"

	"pinfold/api"
)

// Lease is the same one, its texts cloned.
func Lease(l api.Lease) api.Lease {
	l.Client = strings.Clone(l.Client)
	l.Name = strings.Clone(l.Name)
	return l
}

// Leases are the same ones in a list of their own.
func Leases(ls []api.Lease) []api.Lease {
	var own []api.Lease
	for _, l := range ls {
		own = append(own, Lease(l))
	}
	return own
}
