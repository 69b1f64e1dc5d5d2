package wire

import (
	"math"
	"math/rand"
	"slices"
	"strings"
	"sync"
	"testing"

	"pinfold/api"
	"pinfold/name"
)

func checkPut(t *testing.T, at int, ks []api.Known, s string, want string, wantKs []api.Known) {
	t.Helper()
	b, next, e := Put(at, ks, s)
	if b != want || !slices.Equal(next, wantKs) || e != api.OK {
		t.Errorf("P3.1: Put(%d, %v, %q): %q, %v, %d; want %q, %v", at, ks, s, b, next, e, want, wantKs)
	}
}

func checkNoPut(t *testing.T, at int, ks []api.Known, s string) {
	t.Helper()
	b, next, e := Put(at, ks, s)
	if b != "" || len(next) != 0 || e != api.ErrWireForm {
		t.Errorf("P3.1: Put(%d, %v, %q): %q, %v, %d; want %d and nothing beside", at, ks, s, b, next, e, api.ErrWireForm)
	}
}

func checkGet(t *testing.T, s string, at int, want string, wantEnd int) {
	t.Helper()
	if got, end, e := Get(s, at); got != want || end != wantEnd || e != api.OK {
		t.Errorf("P3.2: Get(%q, %d): %q, %d, %d; want %q, %d", s, at, got, end, e, want, wantEnd)
	}
}

func checkNoGet(t *testing.T, s string, at int, want api.Errno) {
	t.Helper()
	if got, end, e := Get(s, at); got != "" || end != 0 || e != want {
		t.Errorf("P3.2: Get(%q, %d): %q, %d, %d; want %d and nothing beside", s, at, got, end, e, want)
	}
}

// labels is n labels of one byte each as they stand in a message, without an end.
func labels(n int) string {
	return strings.Repeat("\x01a", n)
}

// named is a name of n labels of one byte each.
func named(n int) string {
	return strings.TrimSuffix(strings.Repeat("a.", n), ".")
}

// pointerTo is the two bytes of a pointer.
func pointerTo(place int) string {
	return string([]byte{byte(192 + place/256), byte(place % 256)})
}

var wrongNames = []string{".", "a.", ".a", "a..b", "A", "a.B", "a_b", "a b", "\x00", "\xff", "é", "123456789", "a.123456789", "a.b.c.d.e.f.g.h.i", strings.Repeat("a", 1000)}

func TestPutWithoutAnyKnown(t *testing.T) {
	for _, c := range []struct {
		at    int
		s     string
		want  string
		known []api.Known
	}{
		{0, "a", "\x01a\x00", []api.Known{{Name: "a", At: 0}}},
		{12, "a", "\x01a\x00", []api.Known{{Name: "a", At: 12}}},
		{0, "ab.c", "\x02ab\x01c\x00", []api.Known{{Name: "ab.c", At: 0}, {Name: "c", At: 3}}},
		{7, "a.b.c", "\x01a\x01b\x01c\x00", []api.Known{{Name: "a.b.c", At: 7}, {Name: "b.c", At: 9}, {Name: "c", At: 11}}},
		{5, "12345678.-.host-1", "\x0812345678\x01-\x06host-1\x00", []api.Known{{Name: "12345678.-.host-1", At: 5}, {Name: "-.host-1", At: 14}, {Name: "host-1", At: 16}}},
		// Names that end alike within one name are not known from itself: they are of different lengths.
		{3, "a.a", "\x01a\x01a\x00", []api.Known{{Name: "a.a", At: 3}, {Name: "a", At: 5}}},
	} {
		checkPut(t, c.at, nil, c.s, c.want, c.known)
		checkPut(t, c.at, []api.Known{}, c.s, c.want, c.known)
	}
}

func TestPutOfTheRoot(t *testing.T) {
	ks := []api.Known{{Name: "a.b", At: 3}, {Name: "b", At: 5}}
	for _, at := range []int{0, 1, 16383, 16384, 65535} {
		checkPut(t, at, nil, "", "\x00", nil)
		checkPut(t, at, ks, "", "\x00", ks)
	}
}

func TestPutPointsAtWhatIsKnown(t *testing.T) {
	ks := []api.Known{{Name: "b.c", At: 12}, {Name: "c", At: 14}, {Name: "d", At: 258}, {Name: "e", At: 0}, {Name: "f", At: 16383}}
	for _, c := range []struct {
		s    string
		want string
		more []api.Known
	}{
		{"b.c", "\xc0\x0c", nil},
		{"c", "\xc0\x0e", nil},
		{"d", "\xc1\x02", nil},
		{"e", "\xc0\x00", nil},
		{"f", "\xff\xff", nil},
		{"a.b.c", "\x01a\xc0\x0c", []api.Known{{Name: "a.b.c", At: 40}}},
		{"a.c", "\x01a\xc0\x0e", []api.Known{{Name: "a.c", At: 40}}},
		{"xyz.a.d", "\x03xyz\x01a\xc1\x02", []api.Known{{Name: "xyz.a.d", At: 40}, {Name: "a.d", At: 44}}},
		{"b", "\x01b\x00", []api.Known{{Name: "b", At: 40}}},
		{"b.c.a", "\x01b\x01c\x01a\x00", []api.Known{{Name: "b.c.a", At: 40}, {Name: "c.a", At: 42}, {Name: "a", At: 44}}},
		{"bc", "\x02bc\x00", []api.Known{{Name: "bc", At: 40}}},
		{"b-c", "\x03b-c\x00", []api.Known{{Name: "b-c", At: 40}}},
		{"a.f", "\x01a\xff\xff", []api.Known{{Name: "a.f", At: 40}}},
	} {
		checkPut(t, 40, ks, c.s, c.want, append(slices.Clone(ks), c.more...))
	}
}

func TestPutTakesTheFirstOfWhatIsKnownTwice(t *testing.T) {
	ks := []api.Known{{Name: "a", At: 9}, {Name: "b", At: 7}, {Name: "a", At: 3}, {Name: "b", At: 8}, {Name: "b", At: 7}, {Name: "a", At: 0}}
	checkPut(t, 20, ks, "a", "\xc0\x09", ks)
	checkPut(t, 20, ks, "b", "\xc0\x07", ks)
	checkPut(t, 20, ks, "c.b", "\x01c\xc0\x07", append(slices.Clone(ks), api.Known{Name: "c.b", At: 20}))
	// All that is left, label by label: the longest that is known holds, wherever it stands in ks.
	for _, ks := range [][]api.Known{{{Name: "c", At: 1}, {Name: "b.c", At: 2}}, {{Name: "b.c", At: 2}, {Name: "c", At: 1}}} {
		checkPut(t, 20, ks, "b.c", "\xc0\x02", ks)
		checkPut(t, 20, ks, "a.b.c", "\x01a\xc0\x02", append(slices.Clone(ks), api.Known{Name: "a.b.c", At: 20}))
	}
}

func TestPutAtFarPlaces(t *testing.T) {
	for _, c := range []struct {
		at    int
		known []api.Known
	}{
		{16378, []api.Known{{Name: "a.bcd.e", At: 16378}, {Name: "bcd.e", At: 16380}}},
		{16377, []api.Known{{Name: "a.bcd.e", At: 16377}, {Name: "bcd.e", At: 16379}, {Name: "e", At: 16383}}},
		{16379, []api.Known{{Name: "a.bcd.e", At: 16379}, {Name: "bcd.e", At: 16381}}},
		{16381, []api.Known{{Name: "a.bcd.e", At: 16381}, {Name: "bcd.e", At: 16383}}},
		{16382, []api.Known{{Name: "a.bcd.e", At: 16382}}},
		{16383, []api.Known{{Name: "a.bcd.e", At: 16383}}},
		{16384, nil},
		{16385, nil},
		{65534, nil},
		{65535, nil},
	} {
		checkPut(t, c.at, nil, "a.bcd.e", "\x01a\x03bcd\x01e\x00", c.known)
	}
	ks := []api.Known{{Name: "e", At: 16383}}
	checkPut(t, 65535, ks, "a.e", "\x01a\xff\xff", ks)
	checkPut(t, 65535, ks, "e", "\xff\xff", ks)
}

func TestPutRefusesPlaces(t *testing.T) {
	for _, at := range []int{-1, -2, 65536, 65537, 1 << 32, math.MinInt, math.MaxInt} {
		for _, s := range []string{"a", "a.b", "", "A"} {
			checkNoPut(t, at, nil, s)
			checkNoPut(t, at, []api.Known{{Name: "a", At: 1}}, s)
			checkNoPut(t, at, []api.Known{{Name: "", At: -1}}, s)
		}
	}
	checkPut(t, 0, nil, "a", "\x01a\x00", []api.Known{{Name: "a", At: 0}})
	checkPut(t, 65535, nil, "a", "\x01a\x00", nil)
}

func TestPutRefusesNames(t *testing.T) {
	for _, s := range wrongNames {
		checkNoPut(t, 0, nil, s)
		checkNoPut(t, 65535, []api.Known{{Name: "a", At: 0}, {Name: "b", At: 1}}, s)
	}
}

func TestPutRefusesWhatMayNotBeKnown(t *testing.T) {
	wrong := []api.Known{{Name: "", At: 5}, {Name: "", At: 0}, {Name: "a", At: -1}, {Name: "a", At: 16384}, {Name: "x", At: 16385}, {Name: "a", At: math.MinInt}, {Name: "a", At: math.MaxInt}, {Name: "b", At: 65535}, {}}
	for _, s := range wrongNames {
		wrong = append(wrong, api.Known{Name: s, At: 5})
	}
	fine := api.Known{Name: "b", At: 3}
	for _, k := range wrong {
		for _, ks := range [][]api.Known{{k}, {k, fine}, {fine, k}, {fine, k, fine}, {{Name: "a", At: 0}, {Name: "a", At: 16383}, k}} {
			// Whether the name needs it or not.
			for _, s := range []string{"a", "b", "c.b", "", "z"} {
				checkNoPut(t, 20, ks, s)
			}
		}
	}
}

func TestPutLeavesWhatIsKnownAsItIs(t *testing.T) {
	room := []api.Known{{Name: "b", At: 3}, {Name: "c", At: 5}, {Name: "spare", At: 77}, {Name: "room", At: 78}, {Name: "", At: -9}}
	was := slices.Clone(room)
	for n := range 3 {
		ks := room[:n]
		for _, s := range []string{"a.b.c", "b", "d.c", "", "x.y.z", "A"} {
			_, one, _ := Put(9, ks, s)
			_, two, _ := Put(9, ks, s)
			for i := range one {
				one[i] = api.Known{Name: "changed", At: 1}
			}
			_ = append(one, api.Known{Name: "more", At: 2})
			if !slices.Equal(room, was) {
				t.Fatalf("R4: Put(9, %v, %q) changed %v", ks, s, room)
			}
			if slices.Contains(two, api.Known{Name: "changed", At: 1}) {
				t.Fatalf("R4: Put(9, %v, %q): two answers share a list", ks, s)
			}
		}
	}
}

func TestGetOfLabels(t *testing.T) {
	for _, c := range []struct {
		s    string
		at   int
		want string
		end  int
	}{
		{"\x00", 0, "", 1},
		{"\x00\x00\x00", 1, "", 2},
		{"abc\x00", 3, "", 4},
		{"\x01a\x00", 0, "a", 3},
		{"\x01a\x00", 2, "", 3},
		{"\x08abcdefgh\x00", 0, "abcdefgh", 10},
		{"\x0812345678\x01-\x00rest", 0, "12345678.-", 12},
		{"\x03www\x04host\x00\x03net\x00", 0, "www.host", 10},
		{"\x03www\x04host\x00\x03net\x00", 4, "host", 10},
		{"\x03www\x04host\x00\x03net\x00", 10, "net", 15},
		{"zz\x01A\x02bC\x03XYZ\x00zz", 2, "a.bc.xyz", 12},
		{"\x08ABCDEFGH\x00", 0, "abcdefgh", 10},
	} {
		checkGet(t, c.s, c.at, c.want, c.end)
	}
}

func TestGetAlongPointers(t *testing.T) {
	for _, c := range []struct {
		s    string
		at   int
		want string
		end  int
	}{
		{"\x01b\x00\x01a\xc0\x00", 3, "a.b", 7},
		{"\x01b\x00\x01a\xc0\x00tail", 3, "a.b", 7},
		{"\x01b\x00\xc0\x00", 3, "b", 5},
		{"\x01b\x00\xc0\x02", 3, "", 5},
		{"\x01b\x00\x01A\xc0\x02\x00", 3, "a", 7},
		// Into the middle of a row, and to the byte just ahead of where its own row began.
		{"\x01c\x01b\x00\x01a\xc0\x02", 5, "a.b", 9},
		{"\x01c\x00\x01a\xc0\x02", 3, "a", 7},
		// Pointers to pointers, and labels between them: it goes on behind the first.
		{"\x01a\x00\xc0\x00\xc0\x03", 5, "a", 7},
		{"\x01a\x00\xc0\x00\xc0\x03\xc0\x05", 7, "a", 9},
		{"\x01c\x00\x01b\xc0\x00\x01a\xc0\x03\x00\x00", 7, "a.b.c", 11},
		{"\x01c\x00\x01b\xc0\x00\x01a\xc0\x05\x00\x00", 7, "a.c", 11},
		// A row that is gone through once more from its second label on.
		{"\x01c\x00\x01x\x01b\xc0\x00\x01a\xc0\x05", 9, "a.b.c", 13},
		// A place is asked against where its own row began, not against where the name did.
		{"\x00\x01b\xc0\x00\x01a\xc0\x01", 5, "a.b", 9},
	} {
		checkGet(t, c.s, c.at, c.want, c.end)
	}
}

func TestGetAlongFarPointers(t *testing.T) {
	for _, place := range []int{0, 1, 255, 256, 257, 511, 512, 8191, 8192, 16382, 16383} {
		s := strings.Repeat("\x00", place) + "\x03abc\x00"
		s += strings.Repeat("\xff", 16390-len(s)) + "\x01x" + pointerTo(place) + "\x00"
		checkGet(t, s, 16390, "x.abc", 16394)
		checkGet(t, s, 16392, "abc", 16394)
	}
}

func TestGetRefusesPointersThatDoNotGoBack(t *testing.T) {
	for _, c := range []struct {
		s  string
		at int
	}{
		{"\xc0\x00", 0},
		{"\xc0\x01\x00", 0},
		{"\xc0\x02\x00", 0},
		{"\xff\xff", 0},
		{"\x00\xc0\x01", 1},
		{"\x00\xc0\x02", 1},
		{"\x00\xc0\x03\x00", 1},
		{"\x00\xc0\x09", 1},
		{"\x00\xff\xff", 1},
		// Below the pointer, but not below where the row began.
		{"\x01a\xc0\x00", 0},
		{"\x01a\xc0\x02\x00", 0},
		{"\x00\x01a\xc0\x01", 1},
		{"\x00\x01a\x01b\xc0\x01", 1},
		{"\x00\x01a\x01b\xc0\x03", 1},
		{"\x00\x01a\x01b\xc0\x06\x00", 1},
		// Round and round.
		{"\xc0\x02\xc0\x00", 2},
		{"\xc0\x02\xc0\x00", 0},
		{"\x01a\xc0\x04\x01b\xc0\x00", 4},
		// Below where the name began, but not below where the second row did.
		{"\x00\x00\xc0\x02\xc0\x02", 4},
		{"\x00\x01b\xc0\x01\x01a\xc0\x01", 5},
		{"\x01a\x00\x01b\xc0\x03\x01c\xc0\x03", 7},
		{"\x00\x01b\xc0\x04\x00\x01a\xc0\x01", 6},
		// Into the middle of a row: it is a new one from there on.
		{"\x01a\x01b\xc0\x00\x00\x01c\xc0\x00", 7},
		{"\x00\x01a\x01b\xc0\x03\x01c\xc0\x03", 7},
	} {
		checkNoGet(t, c.s, c.at, api.ErrWireForm)
	}
	// The same row, entered ahead of and behind the place that its pointer goes to.
	checkNoGet(t, "\x00\x01a\x01b\xc0\x03", 1, api.ErrWireForm)
	checkNoGet(t, "\x00\x01a\x01b\xc0\x03", 3, api.ErrWireForm)
	checkNoGet(t, "\x00\x01a\x01b\xc0\x01", 1, api.ErrWireForm)
	checkGet(t, "\x00\x01a\x01b\xc0\x00", 1, "a.b", 7)
	checkGet(t, "\x00\x01a\x01b\xc0\x00", 3, "b", 7)
}

func TestGetOutsideTheText(t *testing.T) {
	for _, at := range []int{-1, -2, -100, math.MinInt, math.MinInt + 1} {
		for _, s := range []string{"", "\x00", "\x01a\x00", "\xff"} {
			checkNoGet(t, s, at, api.ErrWireForm)
		}
	}
	for _, s := range []string{"", "\x00", "\x01a\x00", "\xff"} {
		for _, at := range []int{len(s), len(s) + 1, len(s) + 2, 1 << 16, 1 << 32, math.MaxInt - 1, math.MaxInt} {
			checkNoGet(t, s, at, api.ErrWireEnd)
		}
	}
}

func TestGetOfWhatEndsTooSoon(t *testing.T) {
	for _, s := range []string{"\x01", "\x02a", "\x08", "\x081234567", "\x01a", "\x01a\x02b", "\x01a\x01", "\x0812345678", "\xc0", "\xff", "\x01a\xc0", labels(8), labels(8) + "\x01", labels(8) + "\xc0", labels(8) + "\x02a"} {
		checkNoGet(t, s, 0, api.ErrWireEnd)
		checkNoGet(t, "\x00"+s, 1, api.ErrWireEnd)
		// Too short comes ahead of what the bytes are.
		checkNoGet(t, "_"+s, 1, api.ErrWireEnd)
	}
	checkNoGet(t, "\x03__", 0, api.ErrWireEnd)
	checkNoGet(t, "\x02.", 0, api.ErrWireEnd)
	checkNoGet(t, labels(8)+"\x02_", 0, api.ErrWireEnd)
	checkNoGet(t, labels(7)+"\x01_\xff", 0, api.ErrWireForm)
	// Behind a pointer there may be an end too: a label that runs into the end of the text.
	checkNoGet(t, "\x08abc\xc0\x00", 4, api.ErrWireEnd)
}

func TestGetOfEachFirstByte(t *testing.T) {
	for c := range 256 {
		first := string([]byte{byte(c)})
		body := "\x00" + first + "12345678\x00" + strings.Repeat("\x00", 300)
		switch {
		case c == 0:
			checkGet(t, body, 1, "", 2)
			checkGet(t, "\x00"+first, 1, "", 2)
		case c < 9:
			s := "\x00" + first + "12345678"[:c] + "\x00\x00"
			checkGet(t, s, 1, "12345678"[:c], c+3)
			checkNoGet(t, "\x00"+first, 1, api.ErrWireEnd)
			checkNoGet(t, "\x00"+first+"12345678"[:c-1], 1, api.ErrWireEnd)
		case c < 192:
			checkNoGet(t, body, 1, api.ErrWireForm)
			checkNoGet(t, "\x00"+first, 1, api.ErrWireForm)
			checkNoGet(t, "\x00"+first+strings.Repeat("a", c)+"\x00", 1, api.ErrWireForm)
			checkNoGet(t, "\x01a"+first+strings.Repeat("a", c)+"\x00", 0, api.ErrWireForm)
		case c == 192:
			checkGet(t, "\x00"+first+"\x00", 1, "", 3)
			checkNoGet(t, "\x00"+first, 1, api.ErrWireEnd)
			checkNoGet(t, "\x00"+first+"\x01", 1, api.ErrWireForm)
		default:
			checkNoGet(t, body, 1, api.ErrWireForm)
			checkNoGet(t, "\x00"+first+"\x00", 1, api.ErrWireForm)
			checkNoGet(t, "\x00"+first, 1, api.ErrWireEnd)
		}
	}
}

func TestGetOfEachByteInALabel(t *testing.T) {
	const small, large = "abcdefghijklmnopqrstuvwxyz0123456789-", "ABCDEFGHIJKLMNOPQRSTUVWXYZ"
	for c := range 256 {
		one, told := string([]byte{byte(c)}), ""
		if strings.Contains(small, one) {
			told = one
		} else if i := strings.Index(large, one); i >= 0 {
			told = small[i : i+1]
		}
		for _, around := range [][2]string{{"", ""}, {"m", ""}, {"", "m"}, {"mmm", "mmmm"}} {
			label := around[0] + one + around[1]
			s := string([]byte{byte(len(label))}) + label + "\x00"
			if told == "" {
				checkNoGet(t, s, 0, api.ErrWireForm)
				checkNoGet(t, "\x01a"+s, 0, api.ErrWireForm)
				continue
			}
			checkGet(t, s, 0, around[0]+told+around[1], len(s))
			checkGet(t, "\x01a"+s, 0, "a."+around[0]+told+around[1], len(s)+2)
		}
	}
}

func TestGetOfManyLabels(t *testing.T) {
	for n := range 20 {
		s := labels(n) + "\x00"
		if n <= api.MaxLabels {
			checkGet(t, s, 0, named(n), 2*n+1)
		} else {
			checkNoGet(t, s, 0, api.ErrWireForm)
		}
		for m := range 20 {
			both := s + labels(m) + pointerTo(0)
			if n+m <= api.MaxLabels {
				checkGet(t, both, len(s), named(n+m), len(both))
			} else {
				checkNoGet(t, both, len(s), api.ErrWireForm)
			}
		}
	}
	// It is asked behind a label's bytes: what is too short is that first, and what stands behind it is not looked at.
	checkNoGet(t, labels(9), 0, api.ErrWireForm)
	checkNoGet(t, labels(8)+"\x03ab", 0, api.ErrWireEnd)
	checkNoGet(t, labels(8)+"\x03abc", 0, api.ErrWireForm)
	checkNoGet(t, labels(9)+"\x03ab", 0, api.ErrWireForm)
	checkNoGet(t, labels(9)+"\xc0", 0, api.ErrWireForm)
}

// told reads a name by the chapter's words once more, row by row.
func told(s string, at int, count int) (string, int, api.Errno) {
	var out []string
	for here := at; ; {
		if here >= len(s) {
			return "", 0, api.ErrWireEnd
		}
		c := int(s[here])
		if c == 0 {
			return strings.Join(out, "."), here + 1, api.OK
		}
		if c > api.MaxLabel && c < 192 {
			return "", 0, api.ErrWireForm
		}
		if c >= 192 {
			if here+2 > len(s) {
				return "", 0, api.ErrWireEnd
			}
			place := c%64*256 + int(s[here+1])
			if place >= at {
				return "", 0, api.ErrWireForm
			}
			more, _, e := told(s, place, count+len(out))
			if e != api.OK {
				return "", 0, e
			}
			if more != "" {
				out = append(out, more)
			}
			return strings.Join(out, "."), here + 2, api.OK
		}
		if here+1+c > len(s) {
			return "", 0, api.ErrWireEnd
		}
		label := strings.ToLower(s[here+1 : here+1+c])
		if strings.Trim(label, "abcdefghijklmnopqrstuvwxyz0123456789-") != "" || count+len(out) == api.MaxLabels {
			return "", 0, api.ErrWireForm
		}
		out = append(out, label)
		here += 1 + c
	}
}

func TestGetOfAnyBytes(t *testing.T) {
	r := rand.New(rand.NewSource(3))
	const some = "\x00\x00\x01\x01\x02\x03\x08\x09\xc0\xc0\xc0\xc1\xbf\xff.aZ-_b"
	fine, pointed := 0, 0
	for range 40000 {
		b := make([]byte, r.Intn(40))
		for i := range b {
			b[i] = some[r.Intn(len(some))]
			if i > 0 && b[i-1] == '\xc0' {
				b[i] = byte(r.Intn(40))
			}
		}
		s := string(b)
		for at := range len(s) + 2 {
			got, end, e := Get(s, at)
			want, wantEnd, wantErr := told(s, at, 0)
			if got != want || end != wantEnd || e != wantErr {
				t.Fatalf("P3.2: Get(%q, %d): %q, %d, %d; want %q, %d, %d", s, at, got, end, e, want, wantEnd, wantErr)
			}
			if e != api.OK {
				continue
			}
			fine++
			if s[end-1] != 0 || end-2 >= at && s[end-2] >= 192 {
				pointed++
			}
			if !name.May(got) || end <= at || end > len(s) {
				t.Fatalf("P3.2: Get(%q, %d): %q, %d", s, at, got, end)
			}
			// T1: and what is told can be put, and is told again.
			put, _, e := Put(at, nil, got)
			if again, _, _ := Get(put, 0); again != got || e != api.OK {
				t.Fatalf("P3.3: %q is put as %q (%d), and told as %q", got, put, e, again)
			}
		}
	}
	if fine < 1000 || pointed < 100 {
		t.Errorf("of these texts only %d are names, %d with pointers", fine, pointed)
	}
}

func TestWhatIsPutIsToldAgain(t *testing.T) {
	r := rand.New(rand.NewSource(33))
	words := []string{"a", "b", "net", "lan", "host-1", "12345678", "-"}
	for range 300 {
		text := strings.Repeat("\xff", r.Intn(3)*r.Intn(9000))
		var ks []api.Known
		var names []string
		places := []int{len(text)}
		for range 40 {
			row := make([]string, r.Intn(api.MaxLabels+1))
			for i := range row {
				row[i] = words[r.Intn(len(words))]
			}
			s := strings.Join(row, ".")
			b, next, e := Put(len(text), ks, s)
			if e != api.OK || len(next) < len(ks) || !slices.Equal(next[:len(ks)], ks) {
				t.Fatalf("P3.1: Put(%d, %v, %q): %v, %d", len(text), ks, s, next, e)
			}
			names, text, ks = append(names, s), text+b, next
			places = append(places, len(text))
		}
		for _, rest := range []string{"", "\x00", "\xff", "tail"} {
			for i, s := range names {
				checkGet(t, text+rest, places[i], s, places[i+1])
			}
		}
		for _, k := range ks {
			if got, _, e := Get(text, k.At); got != k.Name || e != api.OK {
				t.Fatalf("P3.3: %q is known at %d, where %q stands (%d)", k.Name, k.At, got, e)
			}
		}
	}
}

func TestLongWaysEnd(t *testing.T) {
	// Each pointer points at the one before it.
	s := "\x01a\x00"
	for place := 0; len(s) < 65535; {
		at := len(s)
		s += pointerTo(place)
		if at < 16384 {
			place = at
		}
	}
	checkGet(t, s, len(s)-2, "a", len(s))
	// All of them point at one that points at itself.
	round := "\xc0\x00" + strings.Repeat(pointerTo(0), 20000)
	checkNoGet(t, round, len(round)-2, api.ErrWireForm)
	long := strings.Repeat("\x01a", 1<<20)
	checkNoGet(t, long, 0, api.ErrWireForm)
	var ks []api.Known
	for at := range 16384 {
		ks = append(ks, api.Known{Name: "a", At: at})
	}
	checkPut(t, 0, ks, "a", "\xc0\x00", ks)
}

func TestManyMayCallAtOneTime(t *testing.T) {
	ks := []api.Known{{Name: "b.c", At: 0}, {Name: "c", At: 2}}
	var all sync.WaitGroup
	for range 8 {
		all.Go(func() {
			for range 200 {
				b, next, e := Put(5, ks, "a.b.c")
				s, end, e2 := Get("\x01b\x01c\x00"+b, 5)
				if len(next) != 3 || e != api.OK || s != "a.b.c" || end != 9 || e2 != api.OK {
					t.Errorf("R5: %q, %v, %d; %q, %d, %d", b, next, e, s, end, e2)
				}
			}
		})
	}
	all.Wait()
}
