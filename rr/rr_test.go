package rr

import (
	"encoding/binary"
	"math"
	"math/rand"
	"slices"
	"strings"
	"sync"
	"testing"

	"pinfold/api"
	"pinfold/name"
	"pinfold/wire"
)

// types are all that a record may have.
var types = []int{api.TypeA, api.TypeNs, api.TypeCname, api.TypeSoa, api.TypePtr, api.TypeTxt, api.TypeDhcid}

// otherTypes are some that no record has.
var otherTypes = []int{math.MinInt, -1, 0, 3, 4, 7, 11, 13, 15, 17, api.TypeOpt, 48, 50, 99, api.TypeAny, 256, 256 + api.TypeA, 65535, 65536 + api.TypeA, 1<<32 + api.TypeA, math.MaxInt}

// wrongNames may not be.
var wrongNames = []string{".", "a.", ".a", "a..b", "A", "a.B", "a_b", "a b", "\x00", "\xff", "é", "123456789", "a.123456789", "a.b.c.d.e.f.g.h.i", strings.Repeat("a", 1000)}

// soaEnd is what stands behind the Serial of TypeSoa: 60, 60, 600, 60.
const soaEnd = "\x00\x00\x00\x3c\x00\x00\x00\x3c\x00\x00\x02\x58\x00\x00\x00\x3c"

// sample is a record and how it is put at place 0, when nothing is known.
type sample struct {
	r     api.RR
	want  string
	known []api.Known
}

// samples are of each Type.
func samples() []sample {
	a, ab := []api.Known{{Name: "a", At: 0}}, []api.Known{{Name: "a.b", At: 0}, {Name: "b", At: 2}}
	full := strings.Repeat("\xff\x00z.", api.MaxText/4)
	return []sample{
		{api.RR{Type: 1}, "\x00\x00\x01\x00\x01\x00\x00\x00\x00\x00\x04\x00\x00\x00\x00", nil},
		{api.RR{Name: "a.b", Type: 1, Ttl: 60, Addr: api.Server}, "\x01a\x01b\x00\x00\x01\x00\x01\x00\x00\x00\x3c\x00\x04\x0a\x00\x00\x01", ab},
		{api.RR{Name: "a", Type: 1, Ttl: api.MaxTime, Addr: 1<<32 - 1}, "\x01a\x00\x00\x01\x00\x01\x00\x10\x00\x00\x00\x04\xff\xff\xff\xff", a},
		{api.RR{Name: "a", Type: 2, Ttl: 1, Target: "ns"}, "\x01a\x00\x00\x02\x00\x01\x00\x00\x00\x01\x00\x04\x02ns\x00", []api.Known{{Name: "a", At: 0}, {Name: "ns", At: 13}}},
		{api.RR{Type: 2}, "\x00\x00\x02\x00\x01\x00\x00\x00\x00\x00\x01\x00", nil},
		{api.RR{Name: "a.b", Type: 5, Target: "c.b"}, "\x01a\x01b\x00\x00\x05\x00\x01\x00\x00\x00\x00\x00\x04\x01c\xc0\x02", append(slices.Clone(ab), api.Known{Name: "c.b", At: 15})},
		{api.RR{Name: "a.b", Type: 5, Target: "b"}, "\x01a\x01b\x00\x00\x05\x00\x01\x00\x00\x00\x00\x00\x02\xc0\x02", ab},
		{api.RR{Name: "a", Type: 12, Ttl: 256, Target: "a"}, "\x01a\x00\x00\x0c\x00\x01\x00\x00\x01\x00\x00\x02\xc0\x00", a},
		{api.RR{Name: "a", Type: 6, Ttl: 60, Target: "ns.a", Serial: 0x01020304}, "\x01a\x00\x00\x06\x00\x01\x00\x00\x00\x3c\x00\x1b\x02ns\xc0\x00\xc0\x0d\x01\x02\x03\x04" + soaEnd, []api.Known{{Name: "a", At: 0}, {Name: "ns.a", At: 13}}},
		{api.RR{Name: "a", Type: 6, Target: "b.c", Serial: 1<<32 - 1}, "\x01a\x00\x00\x06\x00\x01\x00\x00\x00\x00\x00\x1b\x01b\x01c\x00\xc0\x0d\xff\xff\xff\xff" + soaEnd, []api.Known{{Name: "a", At: 0}, {Name: "b.c", At: 13}, {Name: "c", At: 15}}},
		{api.RR{Type: 6}, "\x00\x00\x06\x00\x01\x00\x00\x00\x00\x00\x16\x00\x00\x00\x00\x00\x00" + soaEnd, nil},
		{api.RR{Name: "a", Type: 16, Ttl: 65536}, "\x01a\x00\x00\x10\x00\x01\x00\x01\x00\x00\x00\x01\x00", a},
		{api.RR{Name: "a", Type: 16, Text: "x"}, "\x01a\x00\x00\x10\x00\x01\x00\x00\x00\x00\x00\x02\x01x", a},
		{api.RR{Type: 16, Text: full}, "\x00\x00\x10\x00\x01\x00\x00\x00\x00\x00\x41\x40" + full, nil},
		{api.RR{Name: "a", Type: 49}, "\x01a\x00\x00\x31\x00\x01\x00\x00\x00\x00\x00\x00", a},
		{api.RR{Name: "a", Type: 49, Text: "\x01\xff\x00"}, "\x01a\x00\x00\x31\x00\x01\x00\x00\x00\x00\x00\x03\x01\xff\x00", a},
		{api.RR{Type: 49, Text: full}, "\x00\x00\x31\x00\x01\x00\x00\x00\x00\x00\x40" + full, nil},
	}
}

func checkPut(t *testing.T, at int, ks []api.Known, r api.RR, want string, wantKs []api.Known) {
	t.Helper()
	s, next, e := Put(at, ks, r)
	if s != want || !slices.Equal(next, wantKs) || e != api.OK {
		t.Errorf("P4.1: Put(%d, %#v, %#v): %q, %v, %d; want %q, %v", at, ks, r, s, next, e, want, wantKs)
	}
}

func checkNoPut(t *testing.T, at int, ks []api.Known, r api.RR) {
	t.Helper()
	s, next, e := Put(at, ks, r)
	if s != "" || len(next) != 0 || e != api.ErrRrForm {
		t.Errorf("P4.1: Put(%d, %#v, %#v): %q, %v, %d; want %d and nothing beside", at, ks, r, s, next, e, api.ErrRrForm)
	}
}

// checkMay asks May, and Put, which refuses just what may not be.
func checkMay(t *testing.T, r api.RR, want bool) {
	t.Helper()
	if got := May(r); got != want {
		t.Errorf("P4.1: May(%#v): %v; want %v", r, got, want)
	}
	if !want {
		checkNoPut(t, 0, nil, r)
		checkNoPut(t, 700, []api.Known{{Name: "a", At: 0}}, r)
		return
	}
	s, _, e := Put(0, nil, r)
	if e != api.OK {
		t.Errorf("P4.1: Put of %#v: %d", r, e)
	}
	checkGet(t, s, 0, r, len(s))
}

func checkGet(t *testing.T, s string, at int, want api.RR, wantEnd int) {
	t.Helper()
	if r, end, e := Get(s, at); r != want || end != wantEnd || e != api.OK {
		t.Errorf("P4.2: Get(%q, %d): %#v, %d, %d; want %#v, %d", s, at, r, end, e, want, wantEnd)
	}
}

func checkNoGet(t *testing.T, s string, at int) {
	t.Helper()
	if r, end, e := Get(s, at); r != (api.RR{}) || end != 0 || e != api.ErrRrForm {
		t.Errorf("P4.2: Get(%q, %d): %#v, %d, %d; want %d and nothing beside", s, at, r, end, e, api.ErrRrForm)
	}
}

// two and four are numbers of so many bytes.
func two(x int) string  { return string(binary.BigEndian.AppendUint16(nil, uint16(x))) }
func four(x int) string { return string(binary.BigEndian.AppendUint32(nil, uint32(x))) }

// head is a record with the name a up to how many bytes are behind; it takes 13 bytes.
func head(kind int, size int) string {
	return "\x01a\x00" + two(kind) + "\x00\x01\x00\x00\x00\x3c" + two(size)
}

func TestPutOfEachType(t *testing.T) {
	for _, c := range samples() {
		checkPut(t, 0, nil, c.r, c.want, c.known)
		checkPut(t, 0, []api.Known{}, c.r, c.want, c.known)
	}
}

func TestGetOfEachType(t *testing.T) {
	for _, c := range samples() {
		checkGet(t, c.want, 0, c.r, len(c.want))
		for _, rest := range []string{"\x00", "\xff", "tail", c.want} {
			checkGet(t, c.want+rest, 0, c.r, len(c.want))
		}
	}
}

func TestWhichTypesMayBe(t *testing.T) {
	for _, kind := range types {
		checkMay(t, api.RR{Type: kind}, true)
		checkMay(t, api.RR{Name: "a.b", Type: kind, Ttl: 60}, true)
	}
	for _, kind := range otherTypes {
		checkMay(t, api.RR{Type: kind}, false)
		checkMay(t, api.RR{Name: "a.b", Type: kind, Ttl: 60}, false)
		checkMay(t, api.RR{Name: "a.b", Type: kind, Addr: 1}, false)
		checkMay(t, api.RR{Name: "a.b", Type: kind, Text: "x"}, false)
	}
	for kind := -300; kind < 300; kind++ {
		checkMay(t, api.RR{Name: "a", Type: kind}, slices.Contains(types, kind))
	}
}

func TestWhichNamesAndTimesMayBe(t *testing.T) {
	for _, kind := range types {
		for _, s := range []string{"", "a", "-", "12345678", "a.b.c.d.e.f.g.h"} {
			checkMay(t, api.RR{Name: s, Type: kind}, true)
		}
		for _, s := range wrongNames {
			checkMay(t, api.RR{Name: s, Type: kind}, false)
		}
		for _, ttl := range []int{0, 1, 60, 65535, 65536, api.MaxTime - 1, api.MaxTime} {
			checkMay(t, api.RR{Name: "a", Type: kind, Ttl: ttl}, true)
		}
		for _, ttl := range []int{math.MinInt, -api.MaxTime, -1, api.MaxTime + 1, 1<<32 - 1, 1 << 32, 1<<32 + 60, math.MaxInt} {
			checkMay(t, api.RR{Name: "a", Type: kind, Ttl: ttl}, false)
		}
	}
}

func TestWhichFieldsMayBe(t *testing.T) {
	// Which fields a Type names, of Addr, Target, Text and Serial.
	names := map[int]string{api.TypeA: "Addr", api.TypeNs: "Target", api.TypeCname: "Target", api.TypePtr: "Target", api.TypeSoa: "Target Serial", api.TypeTxt: "Text", api.TypeDhcid: "Text"}
	for _, kind := range types {
		plain := api.RR{Name: "a", Type: kind, Ttl: 60}
		for field, set := range map[string]func(*api.RR){
			"Addr":   func(r *api.RR) { r.Addr = 1 },
			"Target": func(r *api.RR) { r.Target = "b" },
			"Text":   func(r *api.RR) { r.Text = "x" },
			"Serial": func(r *api.RR) { r.Serial = 1 },
		} {
			r := plain
			set(&r)
			checkMay(t, r, strings.Contains(names[kind], field))
		}
		// What may not be in any record, and a text of a byte 0, which is not an empty one.
		for _, r := range []api.RR{{Addr: -1}, {Serial: -1}, {Addr: 1 << 32}, {Serial: 1 << 32}, {Target: "B"}} {
			r.Name, r.Type = "a", kind
			checkMay(t, r, false)
		}
		checkMay(t, api.RR{Type: kind, Text: "\x00"}, names[kind] == "Text")
	}
}

func TestWhichNumbersMayBe(t *testing.T) {
	for _, x := range []int{0, 1, 255, 256, 65535, 65536, 1<<31 - 1, 1 << 31, 1<<32 - 2, 1<<32 - 1} {
		checkMay(t, api.RR{Name: "a", Type: api.TypeA, Addr: x}, true)
		checkMay(t, api.RR{Name: "a", Type: api.TypeSoa, Target: "b", Serial: x}, true)
	}
	for _, x := range []int{math.MinInt, -1 << 32, -2, -1, 1 << 32, 1<<32 + 1, 1 << 40, math.MaxInt} {
		checkMay(t, api.RR{Name: "a", Type: api.TypeA, Addr: x}, false)
		checkMay(t, api.RR{Name: "a", Type: api.TypeSoa, Target: "b", Serial: x}, false)
	}
}

func TestWhichTargetsMayBe(t *testing.T) {
	for _, kind := range []int{api.TypeNs, api.TypeCname, api.TypePtr, api.TypeSoa} {
		for _, s := range []string{"", "a", "b", "b.a", "12345678.-", "a.b.c.d.e.f.g.h"} {
			checkMay(t, api.RR{Name: "a", Type: kind, Target: s}, true)
		}
		for _, s := range wrongNames {
			checkMay(t, api.RR{Name: "a", Type: kind, Target: s}, false)
		}
	}
}

func TestWhichTextsMayBe(t *testing.T) {
	for _, kind := range []int{api.TypeTxt, api.TypeDhcid} {
		for n := range 300 {
			checkMay(t, api.RR{Name: "a", Type: kind, Text: strings.Repeat("\xff", n)}, n <= 64)
		}
		for c := range 256 {
			one := string([]byte{byte(c)})
			checkMay(t, api.RR{Name: "a", Type: kind, Text: one}, true)
			checkMay(t, api.RR{Name: "a", Type: kind, Text: strings.Repeat(one, api.MaxText)}, true)
		}
		checkMay(t, api.RR{Name: "a", Type: kind, Text: strings.Repeat("x", 1<<20)}, false)
	}
}

func TestPutRefusesPlaces(t *testing.T) {
	for _, kind := range types {
		r := api.RR{Name: "a", Type: kind}
		for _, at := range []int{math.MinInt, -1, 65536, 1 << 32, math.MaxInt - 3, math.MaxInt} {
			checkNoPut(t, at, nil, r)
			checkNoPut(t, at, []api.Known{{Name: "a", At: 1}}, r)
			checkNoPut(t, at, nil, api.RR{Type: kind})
		}
	}
}

func TestPutRefusesPlacesOfTargets(t *testing.T) {
	for _, c := range []struct {
		r    api.RR
		most int // the greatest place that layer 3 takes all its names at
	}{
		{api.RR{Name: "a", Type: api.TypeA}, 65535},
		{api.RR{Name: "a", Type: api.TypeTxt, Text: "x"}, 65535},
		{api.RR{Name: "a", Type: api.TypeDhcid}, 65535},
		// The Target stands behind three bytes of a name, or one, and ten more.
		{api.RR{Name: "a", Type: api.TypeNs, Target: "b"}, 65535 - 13},
		{api.RR{Type: api.TypeCname, Target: "b"}, 65535 - 11},
		{api.RR{Name: "a", Type: api.TypePtr}, 65535 - 13},
		// And of TypeSoa the second one behind the first: so far out nothing is known any more.
		{api.RR{Name: "a", Type: api.TypeSoa}, 65535 - 14},
		{api.RR{Name: "a", Type: api.TypeSoa, Target: "b"}, 65535 - 16},
		{api.RR{Name: "a", Type: api.TypeSoa, Target: "bcd.efgh"}, 65535 - 23},
	} {
		for at := 65500; at < 65540; at++ {
			if at > c.most {
				checkNoPut(t, at, nil, c.r)
			} else if s, ks, e := Put(at, nil, c.r); s == "" || len(ks) != 0 || e != api.OK {
				t.Errorf("P4.1: Put(%d, nil, %#v): %q, %v, %d", at, c.r, s, ks, e)
			}
		}
	}
	// What is known is two bytes, wherever it stands.
	ks := []api.Known{{Name: "b", At: 5}}
	r := api.RR{Name: "b", Type: api.TypeSoa, Target: "b"}
	checkPut(t, 65535-14, ks, r, "\xc0\x05\x00\x06\x00\x01\x00\x00\x00\x00\x00\x18\xc0\x05\xc0\x05\x00\x00\x00\x00"+soaEnd, ks)
	checkNoPut(t, 65535-13, ks, r)
}

func TestPutRefusesWhatMayNotBeKnown(t *testing.T) {
	wrong := []api.Known{{}, {Name: "", At: 5}, {Name: "a", At: -1}, {Name: "a", At: 16384}, {Name: "x", At: math.MaxInt}, {Name: "x", At: math.MinInt}}
	for _, s := range wrongNames {
		wrong = append(wrong, api.Known{Name: s, At: 5})
	}
	fine := api.Known{Name: "b", At: 3}
	for _, k := range wrong {
		for _, ks := range [][]api.Known{{k}, {k, fine}, {fine, k}, {fine, k, fine}} {
			for _, kind := range types {
				checkNoPut(t, 20, ks, api.RR{Type: kind})
				checkNoPut(t, 20, ks, api.RR{Name: "b", Type: kind})
				checkNoPut(t, -1, ks, api.RR{Name: "A", Type: kind})
			}
		}
	}
}

func TestWhatIsKnownGoesOn(t *testing.T) {
	ks := []api.Known{{Name: "lan", At: 20}, {Name: "x", At: 7}, {Name: "lan", At: 3}}
	with := func(more ...api.Known) []api.Known { return append(slices.Clone(ks), more...) }
	mid := func(kind int, size int) string { return two(kind) + "\x00\x01\x00\x00\x00\x00" + two(size) }
	h := api.Known{Name: "h.lan", At: 40}
	for _, c := range []struct {
		r     api.RR
		want  string
		known []api.Known
	}{
		{api.RR{Name: "h.lan", Type: 1}, "\x01h\xc0\x14" + mid(1, 4) + "\x00\x00\x00\x00", with(h)},
		{api.RR{Name: "lan", Type: 1}, "\xc0\x14" + mid(1, 4) + "\x00\x00\x00\x00", ks},
		{api.RR{Type: 16}, "\x00" + mid(16, 1) + "\x00", ks},
		// The Target is known from ks, from the name, in part, or not at all.
		{api.RR{Name: "h.lan", Type: 2, Target: "x"}, "\x01h\xc0\x14" + mid(2, 2) + "\xc0\x07", with(h)},
		{api.RR{Name: "h.lan", Type: 5, Target: "h.lan"}, "\x01h\xc0\x14" + mid(5, 2) + "\xc0\x28", with(h)},
		{api.RR{Name: "h.lan", Type: 12, Target: "y.h.lan"}, "\x01h\xc0\x14" + mid(12, 4) + "\x01y\xc0\x28", with(h, api.Known{Name: "y.h.lan", At: 54})},
		{api.RR{Name: "h.lan", Type: 12, Target: "y.z"}, "\x01h\xc0\x14" + mid(12, 5) + "\x01y\x01z\x00", with(h, api.Known{Name: "y.z", At: 54}, api.Known{Name: "z", At: 56})},
		{api.RR{Name: "h.lan", Type: 12}, "\x01h\xc0\x14" + mid(12, 1) + "\x00", with(h)},
		// Of TypeSoa the second name is known from the first, unless that is the root.
		{api.RR{Name: "h.lan", Type: 6, Target: "y.z"}, "\x01h\xc0\x14" + mid(6, 27) + "\x01y\x01z\x00\xc0\x36\x00\x00\x00\x00" + soaEnd, with(h, api.Known{Name: "y.z", At: 54}, api.Known{Name: "z", At: 56})},
		{api.RR{Name: "h.lan", Type: 6, Target: "y.h.lan"}, "\x01h\xc0\x14" + mid(6, 26) + "\x01y\xc0\x28\xc0\x36\x00\x00\x00\x00" + soaEnd, with(h, api.Known{Name: "y.h.lan", At: 54})},
		{api.RR{Name: "h.lan", Type: 6, Target: "h.lan"}, "\x01h\xc0\x14" + mid(6, 24) + "\xc0\x28\xc0\x28\x00\x00\x00\x00" + soaEnd, with(h)},
		{api.RR{Name: "h.lan", Type: 6}, "\x01h\xc0\x14" + mid(6, 22) + "\x00\x00\x00\x00\x00\x00" + soaEnd, with(h)},
	} {
		checkPut(t, 40, ks, c.r, c.want, c.known)
	}
}

func TestWhatIsKnownFarOut(t *testing.T) {
	soa := api.RR{Name: "a", Type: 6, Target: "b"}
	a := "\x01a\x00\x00\x06\x00\x01\x00\x00\x00\x00"
	// The Target stands 13 bytes behind the name: at 16383 it is known for its second time, at 16384 it is not.
	checkPut(t, 16383-13, nil, soa, a+"\x00\x19\x01b\x00\xff\xff\x00\x00\x00\x00"+soaEnd, []api.Known{{Name: "a", At: 16370}, {Name: "b", At: 16383}})
	checkPut(t, 16384-13, nil, soa, a+"\x00\x1a\x01b\x00\x01b\x00\x00\x00\x00\x00"+soaEnd, []api.Known{{Name: "a", At: 16371}})
	checkPut(t, 16384, nil, soa, a+"\x00\x1a\x01b\x00\x01b\x00\x00\x00\x00\x00"+soaEnd, nil)
}

func TestHowManyBytesAreBehind(t *testing.T) {
	long := "12345678.12345678.12345678.12345678.12345678.12345678.12345678.12345678"
	for _, c := range []struct {
		at   int
		r    api.RR
		want int
	}{
		{0, api.RR{Type: 1, Addr: 1<<32 - 1}, 4},
		{0, api.RR{Type: 2, Target: long}, 73},
		{0, api.RR{Type: 6, Target: long}, 73 + 2 + 20},
		{20000, api.RR{Type: 6, Target: long}, 73 + 73 + 20},
		{0, api.RR{Type: 16, Text: strings.Repeat("x", 64)}, 65},
		{0, api.RR{Type: 49, Text: strings.Repeat("x", 64)}, 64},
	} {
		s, _, _ := Put(c.at, nil, c.r)
		if len(s) != 11+c.want || s[9:11] != two(c.want) {
			t.Errorf("P4.1: Put(%d, nil, %#v): %q; want %d bytes behind", c.at, c.r, s, c.want)
		}
	}
}

func TestPutLeavesWhatIsKnownAsItIs(t *testing.T) {
	room := []api.Known{{Name: "b", At: 3}, {Name: "c", At: 5}, {Name: "spare", At: 77}, {Name: "room", At: 78}, {Name: "", At: -9}, {Name: "A", At: 9}}
	was := slices.Clone(room)
	for n := range 3 {
		ks := room[:n]
		for _, c := range samples() {
			_, one, _ := Put(9, ks, c.r)
			_, two, _ := Put(9, ks, c.r)
			for i := range one {
				one[i] = api.Known{Name: "changed", At: 1}
			}
			_ = append(one, api.Known{Name: "more", At: 2})
			if !slices.Equal(room, was) {
				t.Fatalf("R4: Put(9, %#v, %#v) changed %v", ks, c.r, room)
			}
			if slices.Contains(two, api.Known{Name: "changed", At: 1}) {
				t.Fatalf("R4: Put(9, %#v, %#v): two answers share a list", ks, c.r)
			}
		}
	}
}

func TestGetOfWhatIsCut(t *testing.T) {
	for _, c := range samples() {
		for _, ahead := range []string{"", "\x00", "ahead", "\xff\xff\xff"} {
			s, _, e := Put(len(ahead), nil, c.r)
			if e != api.OK {
				t.Fatalf("P4.1: Put(%d, nil, %#v): %d", len(ahead), c.r, e)
			}
			for _, behind := range []string{"", "\x00", "behind", "\xff\xff\xff"} {
				checkGet(t, ahead+s+behind, len(ahead), c.r, len(ahead+s))
			}
			for n := range s {
				checkNoGet(t, ahead+s[:n], len(ahead))
			}
		}
	}
}

func TestGetOutsideTheText(t *testing.T) {
	for _, c := range samples() {
		for _, at := range []int{math.MinInt, math.MinInt + 1, -len(c.want), -1, len(c.want), len(c.want) + 1, 1 << 16, 1 << 32, math.MaxInt - 1, math.MaxInt} {
			checkNoGet(t, c.want, at)
			checkNoGet(t, "", at)
		}
	}
	checkNoGet(t, "", 0)
	// But at a great place of a long text there may be a record.
	far := strings.Repeat("\xff", 70000)
	for _, c := range samples() {
		if c.r.Target == "" {
			s, _, _ := Put(0, nil, c.r)
			checkGet(t, far+s, len(far), c.r, len(far+s))
		}
	}
}

func TestGetOfEachKind(t *testing.T) {
	// Bytes that are a name's, a number's or none's, for each number in Type's place.
	for kind := range 65536 {
		if !slices.Contains(types, kind) {
			checkNoGet(t, head(kind, 0), 0)
			checkNoGet(t, head(kind, 4)+"\x01b\x00\x00", 0)
		}
	}
	checkGet(t, head(1, 4)+"\x01b\x00\x00", 0, api.RR{Name: "a", Type: 1, Ttl: 60, Addr: 0x01620000}, 17)
}

func TestGetOfOtherClasses(t *testing.T) {
	for _, c := range samples() {
		head, _, _ := wire.Put(0, nil, c.r.Name)
		at := len(head) + 2
		for _, class := range []int{0, 2, 3, 254, 255, 256, 257, 32769, 65535} {
			checkNoGet(t, c.want[:at]+two(class)+c.want[at+2:], 0)
		}
		checkGet(t, c.want[:at]+two(1)+c.want[at+2:], 0, c.r, len(c.want))
	}
}

func TestGetOfEachTime(t *testing.T) {
	for _, kind := range types {
		s, _, _ := Put(0, nil, api.RR{Name: "a", Type: kind})
		for _, ttl := range []int{0, 1, 60, 65536, api.MaxTime - 1, api.MaxTime} {
			checkGet(t, s[:7]+four(ttl)+s[11:], 0, api.RR{Name: "a", Type: kind, Ttl: ttl}, len(s))
		}
		for _, ttl := range []int{api.MaxTime + 1, 1<<31 - 1, 1 << 31, 1<<32 - 1} {
			checkNoGet(t, s[:7]+four(ttl)+s[11:], 0)
		}
	}
}

func TestGetOfOtherCounts(t *testing.T) {
	for _, r := range []api.RR{
		{Name: "a", Type: 1, Addr: 5},
		{Name: "a", Type: 2, Target: "b"},
		{Name: "a", Type: 2},
		{Name: "a", Type: 5, Target: "a"},
		{Name: "a", Type: 12, Target: "b.a"},
		{Name: "a", Type: 6, Target: "b.a", Serial: 1},
		{Name: "a", Type: 6},
		{Name: "a", Type: 16, Text: "xy"},
		{Name: "a", Type: 16},
	} {
		s, _, _ := Put(0, nil, r)
		size := len(s) - 13
		for _, other := range []int{0, 1, size - 1, size + 1, size + 2, size + 256, 65535} {
			if other == size {
				continue
			}
			for _, rest := range []string{"", "\x00", "\x00\x00", strings.Repeat("\x00", 300), strings.Repeat("\x00", 70000)} {
				checkNoGet(t, s[:11]+two(other)+s[13:]+rest, 0)
			}
		}
	}
	// Of TypeDhcid the count is all that tells its end.
	s := head(49, 3) + "xyz" + strings.Repeat("w", 100)
	for n := range 65536 {
		told := s[:11] + two(n) + s[13:]
		if n > api.MaxText {
			checkNoGet(t, told, 0)
			continue
		}
		checkGet(t, told, 0, api.RR{Name: "a", Type: 49, Ttl: 60, Text: s[13 : 13+n]}, 13+n)
	}
	checkNoGet(t, head(49, 65535)+strings.Repeat("w", 65535), 0)
	checkNoGet(t, head(49, 3)+"xy", 0)
}

func TestGetOfTargetsThatEndElsewhere(t *testing.T) {
	for _, kind := range []int{api.TypeNs, api.TypeCname, api.TypePtr} {
		checkGet(t, head(kind, 3)+"\x01b\x00", 0, api.RR{Name: "a", Type: kind, Ttl: 60, Target: "b"}, 16)
		for i, s := range []string{
			head(kind, 3) + "\x00b\x00",
			head(kind, 3) + "\xc0\x00\x00",
			head(kind, 3) + "\x02bc\x00",
			head(kind, 3) + "\x01b\xc0\x00",
			head(kind, 3) + "\x01b\x01c\x00",
			head(kind, 2) + "\x01b\x00",
			head(kind, 1) + "\x01b\x00",
			head(kind, 1) + "\xc0\x00",
			head(kind, 0) + "\x00",
			head(kind, 0),
			head(kind, 2) + "\x00\x00",
			// And those that are no names.
			head(kind, 3) + "\x01_\x00",
			head(kind, 3) + "\x01.\x00",
			head(kind, 2) + "\x09b",
			head(kind, 2) + "\xc0\x0d",
			head(kind, 2) + "\xc0\x0f\x01b\x00",
			head(kind, 1) + "\x40",
		} {
			if r, end, e := Get(s, 0); r != (api.RR{}) || end != 0 || e != api.ErrRrForm {
				t.Errorf("P4.2: row %d: Get(%q, 0): %#v, %d, %d", i, s, r, end, e)
			}
		}
	}
	// Of TypeSoa: one name alone, a byte between the names and the numbers, a number cut short.
	checkNoGet(t, head(6, 22)+"\x01b\x00"+four(1)+soaEnd[:15], 0)
	checkNoGet(t, head(6, 23)+"\x01b\x00"+four(1)+soaEnd, 0)
	checkNoGet(t, head(6, 27)+"\x01b\x00\x01b\x00\x00"+four(1)+soaEnd, 0)
	checkNoGet(t, head(6, 26)+"\x01b\x00\x01b\x00"+four(1)+soaEnd[:15], 0)
	checkGet(t, head(6, 26)+"\x01b\x00\x01b\x00"+four(1)+soaEnd, 0, api.RR{Name: "a", Type: 6, Ttl: 60, Target: "b", Serial: 1}, 39)
}

func TestGetOfTheNumbersOfSoa(t *testing.T) {
	want := []int{60, 60, 600, 60}
	tell := func(numbers []int) string {
		s := head(6, 22) + "\x00\x00" + four(7)
		for _, x := range numbers {
			s += four(x)
		}
		return s
	}
	checkGet(t, tell(want), 0, api.RR{Name: "a", Type: 6, Ttl: 60, Serial: 7}, 35)
	for i := range want {
		for _, x := range []int{0, 1, 59, 60, 61, 599, 600, 601, 256, 65536 + 60, 1<<24 + 60, 1 << 31, 1<<32 - 1} {
			if x == want[i] {
				continue
			}
			other := slices.Clone(want)
			other[i] = x
			checkNoGet(t, tell(other), 0)
		}
	}
	for _, serial := range []int{0, 1, 60, 1 << 31, 1<<32 - 1} {
		s := tell(want)
		checkGet(t, s[:15]+four(serial)+s[19:], 0, api.RR{Name: "a", Type: 6, Ttl: 60, Serial: serial}, 35)
	}
}

func TestGetOfTheNamesOfSoa(t *testing.T) {
	for _, c := range []struct {
		one, two string
		want     string
		fine     bool
	}{
		{"\x00", "\x00", "", true},
		{"\x01b\x00", "\x01b\x00", "b", true},
		{"\x01b\x00", "\xc0\x0d", "b", true},
		{"\xc0\x00", "\xc0\x00", "a", true},
		{"\xc0\x00", "\x01a\x00", "a", true},
		{"\x01a\x00", "\xc0\x00", "a", true},
		{"\x01A\x00", "\x01a\x00", "a", true},
		{"\x01b\xc0\x00", "\x01B\x01A\x00", "b.a", true},
		{"\x01b\xc0\x00", "\xc0\x0d", "b.a", true},
		{"\xc0\x00", "\xc0\x0d", "a", true},
		{"\xc0\x02", "\x00", "", true},
		{"\x01b\x00", "\x01c\x00", "", false},
		{"\x01b\x00", "\x00", "", false},
		{"\x00", "\x01b\x00", "", false},
		{"\x01b\x00", "\xc0\x00", "", false},
		{"\x01b\x01a\x00", "\xc0\x0f", "", false},
		{"\x01b\x00", "\x01b\xc0\x00", "", false},
		{"\x02bc\x00", "\x01b\x01c\x00", "", false},
	} {
		s := head(6, len(c.one+c.two)+20) + c.one + c.two + four(9) + soaEnd
		if c.fine {
			checkGet(t, s, 0, api.RR{Name: "a", Type: 6, Ttl: 60, Target: c.want, Serial: 9}, len(s))
		} else {
			checkNoGet(t, s, 0)
		}
	}
}

func TestGetOfTheLengthOfTxt(t *testing.T) {
	for size := range 80 {
		for length := range 256 {
			s := head(16, size)
			if size > 0 {
				s += string([]byte{byte(length)}) + strings.Repeat("x", size-1)
			}
			for _, rest := range []string{"", strings.Repeat("\x00", 300)} {
				if size == length+1 && length <= api.MaxText {
					checkGet(t, s+rest, 0, api.RR{Name: "a", Type: 16, Ttl: 60, Text: s[14:]}, len(s))
				} else {
					checkNoGet(t, s+rest, 0)
				}
			}
		}
	}
}

func TestGetOfNamesHoweverTheyAreWritten(t *testing.T) {
	// At 0 stands lan, at 5 the one byte of the root, at 6 H.lan.
	ahead := "\x03LAN\x00\x00\x01H\xc0\x00"
	tail := "\x00\x0c\x00\x01\x00\x00\x00\x3c"
	for _, c := range []struct {
		head, target string
		name, to     string
	}{
		{"\x01A\x01b\x00", "\x01C\x00", "a.b", "c"},
		{"\xc0\x00", "\xc0\x06", "lan", "h.lan"},
		{"\xc0\x06", "\xc0\x00", "h.lan", "lan"},
		{"\x08ABCDEFGH\xc0\x06", "\x01x\xc0\x00", "abcdefgh.h.lan", "x.lan"},
		{"\xc0\x05", "\xc0\x05", "", ""},
		{"\x01b\xc0\x05", "\x01b\xc0\x04", "b", "b"},
		// A name may point at bytes of its own record that stand ahead of it.
		{"\x01b\x00", "\xc0\x0a", "b", "b"},
		{"\x01b\x00", "\x01c\xc0\x0a", "b", "c.b"},
		{"\x01b\x00", "\xc0\x0c", "b", ""},
	} {
		s := ahead + c.head + tail + two(len(c.target)) + c.target
		want := api.RR{Name: c.name, Type: api.TypePtr, Ttl: 60, Target: c.to}
		checkGet(t, s, len(ahead), want, len(s))
		checkGet(t, s+"\x00tail", len(ahead), want, len(s))
		checkNoGet(t, s[:len(s)-1], len(ahead))
	}
	for _, wrong := range []string{"\x01_\x00", "\x09123456789\x00", "\xc0\x16", "\xc0\x17", "\xff\xff", "\x40", "\x80\x00", "\x01a\x01a\x01a\x01a\x01a\x01a\x01a\xc0\x06"} {
		checkNoGet(t, ahead+wrong+tail+"\x00\x02\xc0\x00", len(ahead))
		checkNoGet(t, ahead+"\xc0\x00"+tail+two(len(wrong))+wrong, len(ahead))
	}
}

// told reads a record by the chapter's words once more: the count is cut off first, and the rest held against what Type asks.
func told(s string, at int) (api.RR, int, bool) {
	none := api.RR{}
	n, here, e := wire.Get(s, at)
	if e != api.OK || len(s)-here < 10 {
		return none, 0, false
	}
	big := binary.BigEndian
	kind, ttl := int(big.Uint16([]byte(s[here:]))), int(big.Uint32([]byte(s[here+4:])))
	size := int(big.Uint16([]byte(s[here+8:])))
	from, end := here+10, here+10+size
	if s[here+2:here+4] != "\x00\x01" || ttl > 1048576 || end > len(s) {
		return none, 0, false
	}
	r, body := api.RR{Name: n, Type: kind, Ttl: ttl}, s[from:end]
	switch kind {
	case 1:
		if size == 4 {
			r.Addr = int(big.Uint32([]byte(body)))
			return r, end, true
		}
	case 2, 5, 12:
		to, last, e := wire.Get(s, from)
		r.Target = to
		if e == api.OK && last == end {
			return r, end, true
		}
	case 6:
		one, mid, e := wire.Get(s, from)
		other, last, e2 := wire.Get(s, mid)
		if e == api.OK && e2 == api.OK && one == other && last+20 == end && s[last+4:end] == soaEnd {
			r.Target, r.Serial = one, int(big.Uint32([]byte(s[last:])))
			return r, end, true
		}
	case 16:
		if size >= 1 && size <= 65 && int(body[0]) == size-1 {
			r.Text = body[1:]
			return r, end, true
		}
	case 49:
		if size <= 64 {
			r.Text = body
			return r, end, true
		}
	}
	return none, 0, false
}

// checkTold holds Get against the second reading; is it a record?
func checkTold(t *testing.T, s string, at int) bool {
	t.Helper()
	want, end, ok := told(s, at)
	if !ok {
		checkNoGet(t, s, at)
		return false
	}
	checkGet(t, s, at, want, end)
	// T1: and what is told may be, can be put, and is told again.
	put, _, e := Put(0, nil, want)
	if !May(want) || e != api.OK {
		t.Errorf("P4.2: Get(%q, %d) tells %#v, which may not be (%d)", s, at, want, e)
	}
	checkGet(t, put, 0, want, len(put))
	return true
}

// anyName makes a name by chance.
func anyName(r *rand.Rand) string {
	row := make([]string, r.Intn(api.MaxLabels+1))
	for i := range row {
		row[i] = []string{"a", "b", "net", "lan", "host-1", "12345678", "-"}[r.Intn(7)]
	}
	return strings.Join(row, ".")
}

// anyText makes up to most bytes by chance.
func anyText(r *rand.Rand, most int) string {
	b := make([]byte, r.Intn(most+1))
	for i := range b {
		b[i] = byte(r.Intn(256))
	}
	return string(b)
}

// anyRecord makes one that may be by chance.
func anyRecord(r *rand.Rand) api.RR {
	x := api.RR{Name: anyName(r), Type: types[r.Intn(len(types))], Ttl: r.Intn(api.MaxTime + 1)}
	switch x.Type {
	case api.TypeA:
		x.Addr = r.Intn(1 << 32)
	case api.TypeTxt, api.TypeDhcid:
		x.Text = anyText(r, api.MaxText)
	case api.TypeSoa:
		x.Serial = r.Intn(1 << 32)
		fallthrough
	default:
		x.Target = anyName(r)
	}
	return x
}

func TestGetOfAnyBytes(t *testing.T) {
	r := rand.New(rand.NewSource(4))
	fine := 0
	for range 20000 {
		s := anyText(r, 60)
		for at := range len(s) + 2 {
			if checkTold(t, s, at) {
				fine++
			}
		}
	}
	// Bytes that are likely in a record.
	const some = "\x00\x00\x00\x00\x01\x01\x02\x04\x05\x06\x0c\x10\x31\x3cA\xc0"
	for range 20000 {
		b := []byte("\x01a\x00\x00\x00\x00\x01\x00\x00\x00\x00\x00\x00" + strings.Repeat("\x00", 20))
		b[4] = byte(types[r.Intn(len(types))])
		b[12] = byte(r.Intn(20))
		for i := 13; i < len(b); i++ {
			b[i] = some[r.Intn(len(some))]
		}
		if checkTold(t, string(b[:13+r.Intn(21)]), 0) {
			fine++
		}
	}
	if fine < 500 {
		t.Errorf("of these texts only %d are records", fine)
	}
}

func TestGetOfWhatIsTurned(t *testing.T) {
	r := rand.New(rand.NewSource(44))
	fine, not := 0, 0
	for range 6000 {
		ahead := anyText(r, 20)
		s, _, _ := Put(len(ahead), nil, anyRecord(r))
		for range 8 {
			b := []byte(ahead + s + anyText(r, 3))
			for range 1 + r.Intn(3) {
				b[len(ahead)+r.Intn(len(s))] = byte(r.Intn(256) >> r.Intn(8))
			}
			if checkTold(t, string(b), len(ahead)) {
				fine++
			} else {
				not++
			}
		}
	}
	if fine < 500 || not < 500 {
		t.Errorf("of these texts %d are records, %d not", fine, not)
	}
}

func TestWhatIsPutIsToldAgain(t *testing.T) {
	r := rand.New(rand.NewSource(444))
	for range 300 {
		text := strings.Repeat("\xff", r.Intn(3)*r.Intn(9000))
		var ks []api.Known
		var records []api.RR
		places := []int{len(text)}
		for range 30 {
			x := anyRecord(r)
			s, next, e := Put(len(text), ks, x)
			if e != api.OK || len(next) < len(ks) || !slices.Equal(next[:len(ks)], ks) {
				t.Fatalf("P4.1: Put(%d, %#v, %#v): %v, %d", len(text), ks, x, next, e)
			}
			records, text, ks = append(records, x), text+s, next
			places = append(places, len(text))
		}
		for _, rest := range []string{"", "\x00", "\xff", "tail"} {
			for i, x := range records {
				checkGet(t, text+rest, places[i], x, places[i+1])
			}
		}
		for _, k := range ks {
			if got, _, e := wire.Get(text, k.At); got != k.Name || !name.May(got) || e != api.OK {
				t.Fatalf("P4.1: %q is known at %d, where %q stands (%d)", k.Name, k.At, got, e)
			}
		}
	}
}

func TestManyMayCallAtOneTime(t *testing.T) {
	ks := []api.Known{{Name: "b.c", At: 0}, {Name: "c", At: 2}}
	x := api.RR{Name: "a.b.c", Type: api.TypeSoa, Ttl: 60, Target: "ns.c", Serial: 5}
	var all sync.WaitGroup
	for range 8 {
		all.Go(func() {
			for range 200 {
				s, next, e := Put(5, ks, x)
				got, end, e2 := Get("\x01b\x01c\x00"+s, 5)
				if !May(x) || len(next) != 4 || e != api.OK || got != x || end != 5+len(s) || e2 != api.OK {
					t.Errorf("R5: %q, %v, %d; %#v, %d, %d", s, next, e, got, end, e2)
				}
			}
		})
	}
	all.Wait()
}
