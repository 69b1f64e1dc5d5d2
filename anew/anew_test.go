package anew

import (
	"slices"
	"strings"
	"testing"
	"unsafe"

	"pinfold/api"
)

// meet: do two texts share memory.
func meet(a, b string) bool {
	from, to := uintptr(unsafe.Pointer(unsafe.StringData(a))), uintptr(unsafe.Pointer(unsafe.StringData(b)))
	return from < to+uintptr(len(b)) && to < from+uintptr(len(a))
}

// some are leases whose texts are in one piece of memory.
func some() []api.Lease {
	text := strings.Clone("client.name")
	return []api.Lease{
		{Host: 10, State: api.StateBound, Client: text[:6], Until: 9, Name: text[7:], Won: true},
		{},
		{Host: -5, State: 77, Client: text, Until: -1, Name: text[:0]},
		{Host: 10, State: api.StateBound, Client: text[:6], Until: 9, Name: text[7:], Won: true},
	}
}

func TestLease(t *testing.T) {
	for _, l := range some() {
		own := Lease(l)
		if own != l {
			t.Errorf("%v has become %v", l, own)
		}
		if meet(own.Client, l.Client) || meet(own.Name, l.Name) || meet(own.Client, own.Name) {
			t.Errorf("R4: %v shares memory", own)
		}
	}
}

func TestLeases(t *testing.T) {
	for _, ls := range [][]api.Lease{nil, {}} {
		if own := Leases(ls); len(own) != 0 {
			t.Errorf("none have become %v", own)
		}
	}
	ls := some()
	old := slices.Clone(ls)
	own := Leases(ls[:3])
	if !slices.Equal(own, old[:3]) {
		t.Errorf("%v have become %v", old[:3], own)
	}
	for i := range own {
		for _, l := range append(slices.Clone(ls), own[:i]...) {
			if meet(own[i].Client, l.Client) || meet(own[i].Name, l.Name) || meet(own[i].Client, l.Name) || meet(own[i].Name, l.Client) {
				t.Errorf("R4: %v shares memory", own[i])
			}
		}
	}
	own = append(own, api.Lease{Host: 1})
	own[0].Host++
	if !slices.Equal(ls, old) {
		t.Errorf("R4: %v have become %v", old, ls)
	}
}
