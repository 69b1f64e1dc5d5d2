package taker

import (
	"math"
	"strings"
	"testing"

	"pinfold/api"
)

// checkAt asks whether t stands at a place and has not failed.
func checkAt(t *testing.T, k *Taker, want int) {
	t.Helper()
	if !k.Ok() || k.At() != want || k.Left() != len(k.text)-want {
		t.Errorf("at %d, %d left, ok %v; want %d", k.At(), k.Left(), k.Ok(), want)
	}
}

// checkFailed asks whether t takes nothing any more, whatever it is asked for.
func checkFailed(t *testing.T, k *Taker) {
	t.Helper()
	if k.Ok() || k.Left() != 0 {
		t.Errorf("at %d it has not failed, or %d bytes are left", k.At(), k.Left())
	}
	k.Must(true)
	if x, s, n := k.Number(1), k.Text(0), k.Name(); k.Ok() || x != 0 || s != "" || n != "" {
		t.Errorf("ok %v: %d, %q, %q; want nothing any more", k.Ok(), x, s, n)
	}
	three := func(string, int) (int, int, api.Errno) { return 3, 3, api.OK }
	if x := By(k, three); k.Ok() || x != 0 {
		t.Errorf("ok %v: %d; want nothing any more", k.Ok(), x)
	}
}

func TestPartsAreTakenOneBehindTheOther(t *testing.T) {
	k := From("..\x07\x01\x02\xff\xff\xff\xff\x01A\x00abc\xc0\x09", 2)
	checkAt(t, &k, 2)
	if x, y, z := k.Number(1), k.Number(2), k.Number(4); x != 7 || y != 258 || z != 1<<32-1 {
		t.Errorf("%d, %d, %d", x, y, z)
	}
	checkAt(t, &k, 9)
	if s := k.Name(); s != "a" {
		t.Errorf("%q", s)
	}
	checkAt(t, &k, 12)
	if s, none := k.Text(3), k.Text(0); s != "abc" || none != "" {
		t.Errorf("%q, %q", s, none)
	}
	checkAt(t, &k, 15)
	if s := k.Name(); s != "a" {
		t.Errorf("%q", s)
	}
	checkAt(t, &k, 17)
	k.Must(true)
	checkAt(t, &k, 17)
	if s := k.Text(0); s != "" {
		t.Errorf("%q", s)
	}
	checkAt(t, &k, 17)
}

func TestPlacesOutsideTheText(t *testing.T) {
	for _, s := range []string{"", "\x00", "\x00\x00\x00\x00"} {
		for _, at := range []int{math.MinInt, -1, len(s) + 1, math.MaxInt} {
			k := From(s, at)
			checkFailed(t, &k)
		}
		k := From(s, len(s))
		checkAt(t, &k, len(s))
	}
}

func TestWhatIsMissingFails(t *testing.T) {
	const s = "\x00\x00\x00\x00\x00"
	for at := range len(s) + 1 {
		left := len(s) - at
		for _, n := range []int{1, 2, 4} {
			k := From(s, at)
			if k.Number(n); n <= left {
				checkAt(t, &k, at+n)
			} else {
				checkFailed(t, &k)
			}
		}
		for n := range len(s) + 3 {
			k := From(s, at)
			if k.Text(n); n <= left {
				checkAt(t, &k, at+n)
			} else {
				checkFailed(t, &k)
			}
		}
		for _, n := range []int{-1, math.MinInt, math.MaxInt} {
			k := From(s, at)
			k.Text(n)
			checkFailed(t, &k)
		}
	}
	for _, s := range []string{"", "\x01", "\x01a", "\x01_\x00", "\x09", "\xc0\x00"} {
		k := From(s, 0)
		k.Name()
		checkFailed(t, &k)
	}
	k := From("\x00\x00\x00\x00", 0)
	k.Number(3)
	checkFailed(t, &k)
}

func TestWhatMustBeAndIsNotFails(t *testing.T) {
	k := From("abc", 1)
	k.Must(false)
	checkFailed(t, &k)
}

func TestByTakesWhatItIsHanded(t *testing.T) {
	k := From("abcabc", 1)
	toC := func(s string, at int) ([]string, int, api.Errno) {
		i := strings.IndexByte(s[at:], 'c')
		if i < 0 {
			return []string{"none"}, 9, api.ErrRrForm
		}
		return []string{s[at : at+i]}, at + i + 1, api.OK
	}
	if got := By(&k, toC); len(got) != 1 || got[0] != "b" {
		t.Errorf("%q", got)
	}
	checkAt(t, &k, 3)
	if got := By(&k, toC); len(got) != 1 || got[0] != "ab" {
		t.Errorf("%q", got)
	}
	checkAt(t, &k, 6)
	if got := By(&k, toC); got != nil {
		t.Errorf("%q beside a failure", got)
	}
	checkFailed(t, &k)
}
