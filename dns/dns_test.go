package dns

import (
	"encoding/binary"
	"math"
	"math/rand"
	"slices"
	"strings"
	"sync"
	"testing"

	"pinfold/api"
	"pinfold/rr"
	"pinfold/wire"
)

// types are all that a record may have.
var types = []int{api.TypeA, api.TypeNs, api.TypeCname, api.TypeSoa, api.TypePtr, api.TypeTxt, api.TypeDhcid}

// wrongNames may not be.
var wrongNames = []string{".", "a.", ".a", "a..b", "A", "a.B", "a_b", "a b", "\x00", "\xff", "é", "123456789", "a.b.c.d.e.f.g.h.i", strings.Repeat("a", 1000)}

// wrongRecords may not be.
var wrongRecords = []api.RR{{}, {Type: 99}, {Type: api.TypeOpt}, {Type: api.TypeAny}, {Name: "A", Type: 1}, {Type: 1, Ttl: -1}, {Type: 1, Ttl: api.MaxTime + 1}, {Type: 1, Addr: -1}, {Type: 1, Target: "a"}, {Type: 2, Target: "A"}, {Type: 16, Text: strings.Repeat("x", api.MaxText+1)}}

// two is a number of two bytes.
func two(x int) string { return string(binary.BigEndian.AppendUint16(nil, uint16(x))) }

// head is a message's up to its questions, with Id 5; it takes 12 bytes.
func head(bits, questions, answers, servers, additional int) string {
	return "\x00\x05" + two(bits) + two(questions) + two(answers) + two(servers) + two(additional)
}

// opt is a record of TypeOpt with the root's one byte as its name.
func opt(size int) string {
	return "\x00\x00\x29" + two(size) + "\x00\x00\x00\x00\x00\x00"
}

// plainA is a record as it is put, of an address; it takes 15 bytes.
func plainA(addr byte) string {
	return "\x00\x00\x01\x00\x01\x00\x00\x00\x3c\x00\x04\x0a\x00\x00" + string([]byte{addr})
}

// address is what plainA is.
func address(addr byte) api.RR {
	return api.RR{Type: api.TypeA, Ttl: 60, Addr: api.Net + int(addr)}
}

// addresses are n of them, one unlike the other.
func addresses(n int) []api.RR {
	rs := make([]api.RR, n)
	for i := range rs {
		rs[i] = address(byte(i))
	}
	return rs
}

// questions are n of the root.
func questions(n int) []api.Question {
	qs := make([]api.Question, n)
	for i := range qs {
		qs[i].Type = i + 1
	}
	return qs
}

// rows are the three lists of records.
func rows(m *api.Dns) []*[]api.RR {
	return []*[]api.RR{&m.Answers, &m.Servers, &m.Additional}
}

// same: are both one message. An empty list and nil are one.
func same(a, b api.Dns) bool {
	return a.Id == b.Id && a.Response == b.Response && a.Op == b.Op && a.Authority == b.Authority &&
		a.Truncated == b.Truncated && a.Recursion == b.Recursion && a.Code == b.Code && a.Size == b.Size &&
		slices.Equal(a.Questions, b.Questions) && slices.Equal(a.Answers, b.Answers) &&
		slices.Equal(a.Servers, b.Servers) && slices.Equal(a.Additional, b.Additional)
}

// cutShort is m where all of it would be too long.
func cutShort(m api.Dns) api.Dns {
	return api.Dns{Id: m.Id, Response: m.Response, Op: m.Op, Authority: m.Authority, Truncated: true, Recursion: m.Recursion, Code: m.Code, Questions: m.Questions, Size: m.Size}
}

func checkPut(t *testing.T, m api.Dns, most int, want string) {
	t.Helper()
	if s, e := Put(m, most); s != want || e != api.OK {
		t.Errorf("P5.1: Put(%#v, %d): %q, %d; want %q", m, most, s, e, want)
	}
}

func checkNoPut(t *testing.T, m api.Dns, most int, want api.Errno) {
	t.Helper()
	if s, e := Put(m, most); s != "" || e != want {
		t.Errorf("P5.1: Put(%#v, %d): %q, %d; want %d and nothing beside", m, most, s, e, want)
	}
}

func checkGet(t *testing.T, s string, want api.Dns) {
	t.Helper()
	if m, e := Get(s); !same(m, want) || e != api.OK {
		t.Errorf("P5.2: Get(%q): %#v, %d; want %#v", s, m, e, want)
	}
}

func checkNoGet(t *testing.T, s string) {
	t.Helper()
	if m, e := Get(s); !same(m, api.Dns{}) || e != api.ErrDnsForm {
		t.Errorf("P5.2: Get(%q): %#v, %d; want %d and nothing beside", s, m, e, api.ErrDnsForm)
	}
}

// checkMay asks May, and Put, which refuses just what may not be; what it puts is told again.
func checkMay(t *testing.T, m api.Dns, want bool) {
	t.Helper()
	if got := May(m); got != want {
		t.Errorf("P5.1: May(%#v): %v; want %v", m, got, want)
	}
	if !want {
		for _, most := range []int{11, 12, 512, 65535, 65536} {
			checkNoPut(t, m, most, api.ErrDnsForm)
		}
		return
	}
	s, e := Put(m, 65535)
	if e != api.OK {
		t.Errorf("P5.1: Put(%#v, 65535): %d", m, e)
	}
	checkGet(t, s, m)
}

// sample is a message and its bytes.
type sample struct {
	m    api.Dns
	want string
}

// samples are messages of each kind.
func samples() []sample {
	lan := []api.Question{{Name: "a.lan", Type: 1}}
	return []sample{
		{api.Dns{}, strings.Repeat("\x00", 12)},
		{api.Dns{Id: 65535, Response: true, Op: 15, Authority: true, Truncated: true, Recursion: true, Code: 15}, "\xff\xff\xff\x0f\x00\x00\x00\x00\x00\x00\x00\x00"},
		{api.Dns{Id: 5, Questions: []api.Question{{}}}, head(0, 1, 0, 0, 0) + "\x00\x00\x00\x00\x01"},
		{api.Dns{Id: 5, Recursion: true, Questions: lan}, head(256, 1, 0, 0, 0) + "\x01a\x03lan\x00\x00\x01\x00\x01"},
		{api.Dns{Id: 5, Questions: lan, Size: 1232}, head(0, 1, 0, 0, 1) + "\x01a\x03lan\x00\x00\x01\x00\x01" + opt(1232)},
		{api.Dns{Id: 5, Size: 512}, head(0, 0, 0, 0, 1) + opt(512)},
		{api.Dns{Id: 5, Size: 65535, Code: 3}, head(3, 0, 0, 0, 1) + opt(65535)},
		{api.Dns{Id: 5, Answers: addresses(1), Servers: addresses(2), Additional: addresses(3)}, head(0, 0, 1, 2, 3) + plainA(0) + plainA(0) + plainA(1) + plainA(0) + plainA(1) + plainA(2)},
		{api.Dns{Id: 5, Additional: addresses(2), Size: 513}, head(0, 0, 0, 0, 3) + plainA(0) + plainA(1) + opt(513)},
		{known(), head(32768+1024, 2, 2, 1, 1) + knownBytes},
		{withSize(known(), 4096), head(32768+1024, 2, 2, 1, 2) + knownBytes + opt(4096)},
	}
}

// withSize is m with another Size.
func withSize(m api.Dns, size int) api.Dns {
	m.Size = size
	return m
}

// known is a message whose names lean on each other, from question to question, to the records and through their rows.
func known() api.Dns {
	return api.Dns{Id: 5, Response: true, Authority: true,
		Questions:  []api.Question{{Name: "a.lan", Type: 255}, {Name: "b.a.lan", Type: 65535}},
		Answers:    []api.RR{{Name: "a.lan", Type: api.TypeCname, Ttl: 60, Target: "c.lan"}, {Name: "c.lan", Type: api.TypeA, Ttl: 60, Addr: api.Server}},
		Servers:    []api.RR{{Name: "lan", Type: api.TypeNs, Ttl: 60, Target: "ns.net"}},
		Additional: []api.RR{{Name: "ns.net", Type: api.TypePtr, Ttl: 60, Target: "x.net"}},
	}
}

// knownBytes are those of known behind its head: a.lan at 12, lan at 14, b.a.lan at 23, c.lan at 43, ns.net at 75, net at 78.
const knownBytes = "\x01a\x03lan\x00\x00\xff\x00\x01" +
	"\x01b\xc0\x0c\xff\xff\x00\x01" +
	"\xc0\x0c\x00\x05\x00\x01\x00\x00\x00\x3c\x00\x04\x01c\xc0\x0e" +
	"\xc0\x2b\x00\x01\x00\x01\x00\x00\x00\x3c\x00\x04\x0a\x00\x00\x01" +
	"\xc0\x0e\x00\x02\x00\x01\x00\x00\x00\x3c\x00\x08\x02ns\x03net\x00" +
	"\xc0\x4b\x00\x0c\x00\x01\x00\x00\x00\x3c\x00\x04\x01x\xc0\x4e"

func TestPutAndGetOfSamples(t *testing.T) {
	for _, c := range samples() {
		checkPut(t, c.m, 65535, c.want)
		checkGet(t, c.want, c.m)
		if !May(c.m) {
			t.Errorf("P5.1: May(%#v): false", c.m)
		}
	}
}

func TestWhichNumbersMayBe(t *testing.T) {
	beyond := []int{math.MinInt, -65536, -1, 65536, 65537, 1 << 32, 1<<32 + 5, math.MaxInt}
	for _, x := range []int{0, 1, 255, 256, 32768, 65534, 65535} {
		checkMay(t, api.Dns{Id: x}, true)
		checkMay(t, api.Dns{Questions: []api.Question{{Name: "a", Type: x}}}, true)
	}
	for _, x := range beyond {
		checkMay(t, api.Dns{Id: x}, false)
		checkMay(t, api.Dns{Questions: []api.Question{{Name: "a", Type: x}}}, false)
		checkMay(t, api.Dns{Questions: []api.Question{{}, {}, {}, {Name: "a", Type: x}}}, false)
	}
	for x := range 16 {
		checkMay(t, api.Dns{Op: x}, true)
		checkMay(t, api.Dns{Code: x}, true)
		checkMay(t, api.Dns{Op: 15 - x, Code: x}, true)
	}
	for _, x := range append([]int{16, 17, 31, 32, 64, 128, 255, 256, -15, -16}, beyond...) {
		checkMay(t, api.Dns{Op: x}, false)
		checkMay(t, api.Dns{Code: x}, false)
	}
}

func TestWhichSizesMayBe(t *testing.T) {
	for _, x := range []int{0, 512, 513, 1232, 4096, 65534, 65535} {
		checkMay(t, api.Dns{Size: x}, true)
		checkMay(t, api.Dns{Size: x, Additional: addresses(32)}, true)
	}
	for _, x := range []int{math.MinInt, -512, -1, 1, 2, 255, 256, 510, 511, 65536, 65536 + 512, 1<<32 + 512, math.MaxInt} {
		checkMay(t, api.Dns{Size: x}, false)
	}
}

func TestWhichQuestionsMayBe(t *testing.T) {
	for n := range 5 {
		checkMay(t, api.Dns{Questions: questions(n)}, true)
	}
	for _, n := range []int{5, 6, 33, 256, 65536, 65537, 65540} {
		checkMay(t, api.Dns{Questions: questions(n)}, false)
	}
	for _, s := range []string{"", "a", "-", "12345678", "a.b.c.d.e.f.g.h"} {
		checkMay(t, api.Dns{Questions: []api.Question{{Name: s}}}, true)
		checkMay(t, api.Dns{Questions: []api.Question{{Name: s}, {Name: s}, {Name: s}, {Name: s, Type: 65535}}}, true)
	}
	for _, s := range wrongNames {
		for i := range 4 {
			qs := questions(4)
			qs[i].Name = s
			checkMay(t, api.Dns{Questions: qs}, false)
			checkMay(t, api.Dns{Questions: qs[:i+1]}, false)
		}
	}
}

func TestWhichRecordsMayBe(t *testing.T) {
	for row := range 3 {
		for _, n := range []int{0, 1, 31, 32, 33, 34, 64, 255, 256, 65536, 65537} {
			var m api.Dns
			*rows(&m)[row] = addresses(n)
			checkMay(t, m, n <= 32)
			checkMay(t, withSize(m, 512), n <= 32)
		}
		for _, r := range wrongRecords {
			for _, at := range []int{0, 1, 31} {
				var m api.Dns
				rs := addresses(32)
				rs[at] = r
				*rows(&m)[row] = rs
				checkMay(t, m, false)
				*rows(&m)[row] = rs[:at+1]
				checkMay(t, m, false)
			}
		}
		for _, kind := range types {
			var m api.Dns
			*rows(&m)[row] = []api.RR{{Name: "a.b", Type: kind}, address(1), {Type: kind}}
			checkMay(t, m, true)
		}
	}
	checkMay(t, api.Dns{Answers: addresses(32), Servers: addresses(32), Additional: addresses(32), Questions: questions(4), Size: 512}, true)
}

func TestEachBitOfTheHead(t *testing.T) {
	all := 0
	for _, c := range []struct {
		bit int
		m   api.Dns
	}{
		{1 << 15, api.Dns{Id: 5, Response: true}},
		{1 << 14, api.Dns{Id: 5, Op: 8}},
		{1 << 13, api.Dns{Id: 5, Op: 4}},
		{1 << 12, api.Dns{Id: 5, Op: 2}},
		{1 << 11, api.Dns{Id: 5, Op: 1}},
		{1 << 10, api.Dns{Id: 5, Authority: true}},
		{1 << 9, api.Dns{Id: 5, Truncated: true}},
		{1 << 8, api.Dns{Id: 5, Recursion: true}},
		{1 << 3, api.Dns{Id: 5, Code: 8}},
		{1 << 2, api.Dns{Id: 5, Code: 4}},
		{1 << 1, api.Dns{Id: 5, Code: 2}},
		{1 << 0, api.Dns{Id: 5, Code: 1}},
		{1<<16 - 1 - 240, api.Dns{Id: 5, Response: true, Op: 15, Authority: true, Truncated: true, Recursion: true, Code: 15}},
	} {
		checkPut(t, c.m, 12, head(c.bit, 0, 0, 0, 0))
		checkGet(t, head(c.bit, 0, 0, 0, 0), c.m)
		all |= c.bit
	}
	if all != 65535-240 {
		t.Fatalf("%d bits", all)
	}
	for bits := range 65536 {
		s := head(bits, 0, 0, 0, 0)
		if bits&(128|64|32|16) != 0 {
			checkNoGet(t, s)
			continue
		}
		m, e := Get(s)
		back, e2 := Put(m, 12)
		if e != api.OK || e2 != api.OK || back != s {
			t.Fatalf("T1: %q: %#v, %d; %q, %d", s, m, e, back, e2)
		}
	}
	for id := range 65536 {
		s := two(id) + strings.Repeat("\x00", 10)
		checkGet(t, s, api.Dns{Id: id})
		checkPut(t, api.Dns{Id: id}, 12, s)
	}
}

func TestHowMuchMayBePut(t *testing.T) {
	for _, most := range []int{math.MinInt, -1, 0, 1, 11, 65536, 65537, 1 << 32, 1<<32 + 512, math.MaxInt} {
		for _, c := range samples() {
			checkNoPut(t, c.m, most, api.ErrDnsForm)
		}
		// Which is named ahead of the length.
		checkNoPut(t, api.Dns{Questions: questions(4)}, most, api.ErrDnsForm)
		checkNoPut(t, api.Dns{Size: 512}, most, api.ErrDnsForm)
	}
	checkPut(t, api.Dns{}, 12, strings.Repeat("\x00", 12))
	checkPut(t, api.Dns{}, 65535, strings.Repeat("\x00", 12))
	for _, c := range samples() {
		short := cutShort(c.m)
		less, e := Put(short, 65535)
		if e != api.OK {
			t.Fatalf("P5.1: Put(%#v, 65535): %d", short, e)
		}
		for most := 12; most <= len(c.want)+3; most++ {
			switch {
			case most >= len(c.want):
				checkPut(t, c.m, most, c.want)
			case most >= len(less):
				checkPut(t, c.m, most, less)
				checkGet(t, less, short)
			default:
				checkNoPut(t, c.m, most, api.ErrDnsLong)
			}
		}
	}
}

func TestWhatIsCutShort(t *testing.T) {
	m := withSize(known(), 4096)
	whole := 12 + len(knownBytes) + 11
	less := head(32768+1024+512, 2, 0, 0, 1) + knownBytes[:19] + opt(4096)
	checkPut(t, m, whole, head(32768+1024, 2, 2, 1, 2)+knownBytes+opt(4096))
	checkPut(t, m, whole-1, less)
	checkPut(t, m, len(less), less)
	checkNoPut(t, m, len(less)-1, api.ErrDnsLong)
	// Without a size there is no record at all.
	m = known()
	less = head(32768+1024+512, 2, 0, 0, 0) + knownBytes[:19]
	checkPut(t, m, len(knownBytes)+11, less)
	checkPut(t, m, len(less), less)
	checkNoPut(t, m, len(less)-1, api.ErrDnsLong)
	checkNoPut(t, m, 12, api.ErrDnsLong)
	// One record alone, in each row.
	for row := range 3 {
		for _, size := range []int{0, 512} {
			m := api.Dns{Id: 5, Size: size}
			*rows(&m)[row] = addresses(1)
			s, e := Put(m, 65535)
			less, _ := Put(api.Dns{Id: 5, Truncated: true, Size: size}, 65535)
			if len(s) != len(less)+15 || e != api.OK {
				t.Fatalf("P5.1: %q, %d; %q", s, e, less)
			}
			checkPut(t, m, len(s), s)
			checkPut(t, m, len(s)-1, less)
			checkPut(t, m, len(less), less)
		}
	}
	// Where there is no record to leave out, or it is told already: nothing is left to be cut.
	checkNoPut(t, api.Dns{Questions: questions(1)}, 16, api.ErrDnsLong)
	checkPut(t, api.Dns{Id: 5, Questions: questions(1)}, 17, head(0, 1, 0, 0, 0)+"\x00\x00\x01\x00\x01")
	checkNoPut(t, api.Dns{Truncated: true, Questions: questions(1)}, 16, api.ErrDnsLong)
	checkNoPut(t, api.Dns{Size: 512}, 22, api.ErrDnsLong)
	checkPut(t, api.Dns{Id: 5, Size: 512}, 23, head(0, 0, 0, 0, 1)+opt(512))
	// What may not be is named ahead of what is too long.
	checkNoPut(t, api.Dns{Questions: []api.Question{{Name: "A"}, {}, {}}}, 12, api.ErrDnsForm)
	checkNoPut(t, api.Dns{Answers: []api.RR{{Type: 99}}, Questions: questions(4)}, 12, api.ErrDnsForm)
	checkNoPut(t, api.Dns{Additional: addresses(33), Size: 512}, 12, api.ErrDnsForm)
}

// handed is m with lists that have room to spare, and a call that asks whether anything of it is another now.
func handed(m api.Dns) (api.Dns, func() bool) {
	qs := append(slices.Clone(m.Questions), api.Question{Name: "spare", Type: 77}, api.Question{Name: "A", Type: -9})
	wasQs := slices.Clone(qs)
	var lists, was [][]api.RR
	m.Questions = qs[:len(m.Questions)]
	for _, rs := range rows(&m) {
		list := append(slices.Clone(*rs), address(9), api.RR{Type: -9})
		lists, was = append(lists, list), append(was, slices.Clone(list))
		*rs = list[:len(*rs)]
	}
	return m, func() bool {
		return slices.Equal(qs, wasQs) && slices.EqualFunc(lists, was, slices.Equal[[]api.RR])
	}
}

func TestPutLeavesWhatIsHandedInAsItIs(t *testing.T) {
	more := []sample{{m: api.Dns{Questions: questions(5)}}, {m: api.Dns{Additional: []api.RR{{Type: 99}}}}, {m: api.Dns{Answers: addresses(33)}}}
	for _, c := range append(samples(), more...) {
		m, asItWas := handed(c.m)
		for _, most := range []int{11, 12, 23, 40, 60, 65535, 65536} {
			Put(m, most)
			May(m)
			if !asItWas() {
				t.Fatalf("R4: Put(%#v, %d) changed what was handed in", c.m, most)
			}
		}
	}
}

func TestAnswersShareNoMemory(t *testing.T) {
	spoil := func(m *api.Dns) {
		for i := range m.Questions {
			m.Questions[i].Name = "changed"
		}
		_ = append(m.Questions, api.Question{Name: "more"})
		for _, rs := range rows(m) {
			for i := range *rs {
				(*rs)[i].Name = "changed"
			}
			_ = append(*rs, api.RR{Name: "more"})
		}
	}
	for _, c := range samples() {
		one, _ := Get(c.want)
		two, _ := Get(c.want)
		spoil(&one)
		if !same(two, c.m) {
			t.Errorf("R4: Get(%q): two answers share a list", c.want)
		}
		checkGet(t, c.want, c.m)
		// And no list of an answer has room that another of its lists stands in.
		for i, rs := range rows(&two) {
			_ = append(*rs, api.RR{Name: "more"}, api.RR{Name: "more"})
			_ = append(two.Questions, api.Question{Name: "more"})
			for j := range *rs {
				(*rs)[j].Addr++
			}
			for k, other := range rows(&two) {
				if k > i && !slices.Equal(*other, *rows(&c.m)[k]) {
					t.Errorf("R4: Get(%q): its rows %d and %d share a list", c.want, i, k)
				}
			}
		}
	}
}

func TestGetOfWhatIsCut(t *testing.T) {
	for _, c := range samples() {
		for n := range c.want {
			checkNoGet(t, c.want[:n])
		}
		for _, rest := range []string{"\x00", "\xff", "tail", opt(512), plainA(1), strings.Repeat("\x00", 70000), c.want} {
			checkNoGet(t, c.want+rest)
		}
	}
	checkNoGet(t, "")
}

func TestGetOfBitsThatNoMessageHas(t *testing.T) {
	for _, c := range samples() {
		for _, bit := range []byte{128, 64, 32, 16, 240, 144} {
			b := []byte(c.want)
			b[3] |= bit
			checkNoGet(t, string(b))
		}
	}
}

func TestGetOfOtherCounts(t *testing.T) {
	for _, c := range samples() {
		for at := 4; at < 12; at += 2 {
			count := int(binary.BigEndian.Uint16([]byte(c.want[at:])))
			for _, other := range []int{0, 1, 2, 3, 4, 5, 6, 31, 32, 33, 34, 255, 256, 257, 65534, 65535} {
				if other == count {
					continue
				}
				checkNoGet(t, c.want[:at]+two(other)+c.want[at+2:])
			}
		}
	}
	for n := range 8 {
		s := head(0, n, 0, 0, 0) + strings.Repeat("\x00\x00\x07\x00\x01", n)
		if n > 4 {
			checkNoGet(t, s)
			continue
		}
		want := api.Dns{Id: 5, Questions: make([]api.Question, n)}
		for i := range want.Questions {
			want.Questions[i].Type = 7
		}
		checkGet(t, s, want)
	}
	for row := range 3 {
		for _, n := range []int{0, 1, 31, 32, 33, 34, 35, 64, 256, 4000, 65535} {
			counts := [3]int{}
			counts[row] = n
			s := head(0, 0, counts[0], counts[1], counts[2]) + strings.Repeat(plainA(7), n)
			if n > 32 {
				checkNoGet(t, s)
				continue
			}
			want := api.Dns{Id: 5}
			for range n {
				*rows(&want)[row] = append(*rows(&want)[row], address(7))
			}
			checkGet(t, s, want)
		}
	}
	// A question told as a record, and a record as a question.
	checkNoGet(t, head(0, 0, 1, 0, 0)+"\x00\x00\x01\x00\x01")
	checkNoGet(t, head(0, 1, 0, 0, 0)+plainA(1))
	// Records may be told of any row, whichever they were put for.
	checkGet(t, head(0, 0, 1, 1, 0)+plainA(1)+plainA(2), api.Dns{Id: 5, Answers: []api.RR{address(1)}, Servers: []api.RR{address(2)}})
	checkGet(t, head(0, 0, 0, 1, 1)+plainA(1)+plainA(2), api.Dns{Id: 5, Servers: []api.RR{address(1)}, Additional: []api.RR{address(2)}})
	checkGet(t, head(0, 0, 2, 0, 0)+plainA(1)+plainA(2), api.Dns{Id: 5, Answers: []api.RR{address(1), address(2)}})
}

func TestGetOfQuestions(t *testing.T) {
	ask := func(s string) string { return head(0, 1, 0, 0, 0) + s }
	for _, class := range []int{0, 2, 3, 254, 255, 256, 257, 32769, 65535} {
		checkNoGet(t, ask("\x01a\x00\x00\x01"+two(class)))
	}
	for _, kind := range []int{0, 1, 41, 252, 255, 256, 32768, 65535} {
		checkGet(t, ask("\x01a\x00"+two(kind)+"\x00\x01"), api.Dns{Id: 5, Questions: []api.Question{{Name: "a", Type: kind}}})
	}
	for _, c := range []struct{ s, name string }{
		{"\x00", ""},
		{"\x01A\x00", "a"},
		{"\x01A\x03LaN\x00", "a.lan"},
		{"\x08HOST-123\x00", "host-123"},
		{"\x01a\x01a\x01a\x01a\x01a\x01a\x01a\x01a\x00", "a.a.a.a.a.a.a.a"},
		// The head's own bytes may be pointed at: at 0 and at 6 there is a byte 0.
		{"\xc0\x00", ""},
		{"\xc0\x06", ""},
		{"\x01b\xc0\x08", "b"},
	} {
		checkGet(t, ask(c.s+"\x00\x01\x00\x01"), api.Dns{Id: 5, Questions: []api.Question{{Name: c.name, Type: 1}}})
	}
	for _, wrong := range []string{"\x01_\x00", "\x01.\x00", "\x09123456789\x00", "\x40\x00", "\x80", "\xc0\x0c", "\xc0\x0d", "\xff\xff", "\x01a\xc0\x0c", "\xc0\x05", strings.Repeat("\x01a", 9) + "\x00", ""} {
		checkNoGet(t, ask(wrong+"\x00\x01\x00\x01"))
	}
}

func TestGetOfNamesHoweverTheyAreWritten(t *testing.T) {
	// At 12 stands A.Lan, at 14 lan, at 18 the root, at 23 b.a.lan.
	s := head(0, 2, 1, 1, 1) + "\x01A\x03Lan\x00\x00\x01\x00\x01" + "\x01B\xc0\x0c\x00\x02\x00\x01"
	s += "\xc0\x17\x00\x05\x00\x01\x00\x00\x00\x3c\x00\x02\xc0\x0e"
	s += "\x03LAN\x00\x00\x02\x00\x01\x00\x00\x00\x3c\x00\x05\x01C\x01d\x00"
	s += "\x01X\xc0\x17\x00\x0c\x00\x01\x00\x00\x00\x3c\x00\x02\xc0\x12"
	want := api.Dns{Id: 5, Questions: []api.Question{{Name: "a.lan", Type: 1}, {Name: "b.a.lan", Type: 2}},
		Answers:    []api.RR{{Name: "b.a.lan", Type: api.TypeCname, Ttl: 60, Target: "lan"}},
		Servers:    []api.RR{{Name: "lan", Type: api.TypeNs, Ttl: 60, Target: "c.d"}},
		Additional: []api.RR{{Name: "x.b.a.lan", Type: api.TypePtr, Ttl: 60}},
	}
	checkGet(t, s, want)
	for n := range s {
		checkNoGet(t, s[:n])
	}
	// Each name in its place turned into one that goes ahead, or round.
	for _, c := range []struct{ old, now string }{{"B\xc0\x0c", "B\xc0\x17"}, {"B\xc0\x0c", "B\xc0\x20"}, {"\xc0\x17\x00\x05", "\xc0\x1f\x00\x05"}, {"\x02\xc0\x0e", "\x02\xff\xff"}, {"X\xc0\x17", "X\xc0\xff"}} {
		if !strings.Contains(s, c.old) {
			t.Fatalf("%q is not there", c.old)
		}
		checkNoGet(t, strings.Replace(s, c.old, c.now, 1))
	}
	// And what is told is put another way, and told the same.
	again, e := Put(want, 65535)
	if e != api.OK || again == s {
		t.Errorf("P5.1: %q, %d", again, e)
	}
	checkGet(t, again, want)
}

func TestGetOfTheOpt(t *testing.T) {
	one, both := []api.RR{address(1)}, []api.RR{address(1), address(2)}
	for _, c := range []struct {
		s    string
		want api.Dns
	}{
		{head(0, 0, 0, 0, 1) + opt(600), api.Dns{Id: 5, Size: 600}},
		{head(0, 0, 0, 0, 2) + opt(600) + plainA(1), api.Dns{Id: 5, Additional: one, Size: 600}},
		{head(0, 0, 0, 0, 2) + plainA(1) + opt(600), api.Dns{Id: 5, Additional: one, Size: 600}},
		{head(0, 0, 0, 0, 3) + opt(600) + plainA(1) + plainA(2), api.Dns{Id: 5, Additional: both, Size: 600}},
		{head(0, 0, 0, 0, 3) + plainA(1) + opt(600) + plainA(2), api.Dns{Id: 5, Additional: both, Size: 600}},
		{head(0, 0, 0, 0, 3) + plainA(1) + plainA(2) + opt(600), api.Dns{Id: 5, Additional: both, Size: 600}},
		{head(0, 0, 1, 2, 2) + plainA(1) + plainA(1) + plainA(2) + opt(600) + plainA(1), api.Dns{Id: 5, Answers: one, Servers: both, Additional: one, Size: 600}},
		// The root however it is written: a pointer to a byte 0.
		{head(0, 0, 0, 0, 1) + "\xc0\x00" + opt(600)[1:], api.Dns{Id: 5, Size: 600}},
		// Any four bytes, and any text.
		{head(0, 0, 0, 0, 1) + "\x00\x00\x29\x02\x58\xff\xff\xff\xff\x00\x00", api.Dns{Id: 5, Size: 600}},
		{head(0, 0, 0, 0, 1) + "\x00\x00\x29\x02\x58\x01\x02\x80\x00\x00\x01\x00", api.Dns{Id: 5, Size: 600}},
		{head(0, 0, 0, 0, 2) + "\x00\x00\x29\x02\x58\x00\x00\x80\x00\x00\x03\xff\x00\xc0" + plainA(1), api.Dns{Id: 5, Additional: one, Size: 600}},
		{head(0, 0, 0, 0, 1) + "\x00\x00\x29\x02\x58\x00\x00\x80\x00\x01\x00" + strings.Repeat("\xfe", 256), api.Dns{Id: 5, Size: 600}},
		{head(0, 0, 0, 0, 1) + "\x00\x00\x29\x02\x58\x00\x00\x80\x00\xff\xff" + strings.Repeat("\xfe", 65535), api.Dns{Id: 5, Size: 600}},
		// A text that is itself such a record.
		{head(0, 0, 0, 0, 1) + "\x00\x00\x29\x02\x58\x00\x00\x80\x00\x00\x0b" + opt(700), api.Dns{Id: 5, Size: 600}},
	} {
		checkGet(t, c.s, c.want)
		for n := range min(len(c.s), 400) {
			checkNoGet(t, c.s[:n])
		}
		checkNoGet(t, c.s+"\x00")
	}
	for i, s := range []string{
		// Two of them, with or without a record between, and three.
		head(0, 0, 0, 0, 2) + opt(600) + opt(600),
		head(0, 0, 0, 0, 2) + opt(0) + opt(0),
		head(0, 0, 0, 0, 2) + opt(512) + opt(700),
		head(0, 0, 0, 0, 3) + opt(600) + plainA(1) + opt(600),
		head(0, 0, 0, 0, 3) + opt(600) + opt(600) + opt(600),
		// One with a name.
		head(0, 0, 0, 0, 1) + "\x01a" + opt(600),
		head(0, 0, 0, 0, 1) + "\x01A\x01b" + opt(600),
		head(0, 1, 0, 0, 1) + "\x01a\x00\x00\x01\x00\x01\xc0\x0c" + opt(600)[1:],
		head(0, 0, 0, 0, 1) + "\x01_" + opt(600),
		// One told longer than what is behind it, or shorter.
		head(0, 0, 0, 0, 1) + "\x00\x00\x29\x02\x58\x00\x00\x00\x00\x00\x01",
		head(0, 0, 0, 0, 1) + "\x00\x00\x29\x02\x58\x00\x00\x00\x00\x00\x03ab",
		head(0, 0, 0, 0, 1) + "\x00\x00\x29\x02\x58\x00\x00\x00\x00\xff\xffab",
		head(0, 0, 0, 0, 1) + "\x00\x00\x29\x02\x58\x00\x00\x00\x00\x00\x01ab",
		head(0, 0, 0, 0, 2) + "\x00\x00\x29\x02\x58\x00\x00\x00\x00\x00\x01" + plainA(1),
		// One among Answers or Servers, and one that is not counted, or counted twice.
		head(0, 0, 1, 0, 0) + opt(600),
		head(0, 0, 0, 1, 0) + opt(600),
		head(0, 0, 1, 0, 1) + opt(600) + opt(600),
		head(0, 0, 0, 1, 1) + opt(600) + plainA(1),
		head(0, 0, 0, 0, 0) + opt(600),
		head(0, 0, 0, 0, 1) + plainA(1) + opt(600),
		head(0, 0, 0, 0, 2) + opt(600),
	} {
		if m, e := Get(s); !same(m, api.Dns{}) || e != api.ErrDnsForm {
			t.Errorf("P5.2: row %d: Get(%q): %#v, %d", i, s, m, e)
		}
	}
}

func TestGetOfTheOptsSize(t *testing.T) {
	for size := range 65536 {
		checkGet(t, head(0, 0, 0, 0, 1)+opt(size), api.Dns{Id: 5, Size: max(size, 512)})
	}
}

func TestGetOfTheOptAmongManyRecords(t *testing.T) {
	for _, n := range []int{31, 32, 33} {
		for at := range n + 1 {
			s := head(0, 0, 0, 0, n+1)
			var want []api.RR
			for i := range n {
				if i == at {
					s += opt(600)
				}
				s += plainA(byte(i))
				want = append(want, address(byte(i)))
			}
			if at == n {
				s += opt(600)
			}
			if n > 32 {
				checkNoGet(t, s)
			} else {
				checkGet(t, s, api.Dns{Id: 5, Additional: want, Size: 600})
			}
		}
	}
}

// cursor reads a message by the chapter's words once more.
type cursor struct {
	s  string
	at int
	ok bool
}

func (c *cursor) two() int {
	if !c.ok || len(c.s)-c.at < 2 {
		c.ok = false
		return 0
	}
	c.at += 2
	return int(c.s[c.at-2])*256 + int(c.s[c.at-1])
}

func (c *cursor) records(n int) []api.RR {
	var rs []api.RR
	for i := 0; i < n && c.ok; i++ {
		r, end, e := rr.Get(c.s, c.at)
		c.at, c.ok = end, e == api.OK
		rs = append(rs, r)
	}
	return rs
}

// told reads all of s: the one of TypeOpt is sought first, where a record is refused.
func told(s string) (api.Dns, bool) {
	c := cursor{s: s, ok: true}
	m := api.Dns{Id: c.two()}
	bits := c.two()
	m.Response, m.Op, m.Authority, m.Truncated = bits>>15 == 1, bits>>11%16, bits>>10%2 == 1, bits>>9%2 == 1
	m.Recursion, m.Code = bits>>8%2 == 1, bits%16
	counts := [4]int{c.two(), c.two(), c.two(), c.two()}
	if !c.ok || bits>>4%16 != 0 || counts[0] > 4 || counts[1] > 32 || counts[2] > 32 || counts[3] > 33 {
		return api.Dns{}, false
	}
	for range counts[0] {
		n, end, e := wire.Get(s, c.at)
		c.at = end
		q := api.Question{Name: n, Type: c.two()}
		if c.two() != 1 || e != api.OK {
			return api.Dns{}, false
		}
		m.Questions = append(m.Questions, q)
	}
	m.Answers, m.Servers = c.records(counts[1]), c.records(counts[2])
	for range counts[3] {
		n, end, e := wire.Get(s, c.at)
		if !c.ok || e != api.OK || len(s)-end < 10 {
			return api.Dns{}, false
		}
		if s[end:end+2] != "\x00\x29" {
			m.Additional = append(m.Additional, c.records(1)...)
			continue
		}
		size, behind := int(binary.BigEndian.Uint16([]byte(s[end+2:]))), int(binary.BigEndian.Uint16([]byte(s[end+8:])))
		c.at = end + 10 + behind
		if n != "" || m.Size != 0 || c.at > len(s) {
			return api.Dns{}, false
		}
		m.Size = max(size, 512)
	}
	if !c.ok || c.at != len(s) || len(m.Additional) > 32 {
		return api.Dns{}, false
	}
	return m, true
}

// checkTold holds Get against the second reading; is it a message?
func checkTold(t *testing.T, s string) bool {
	t.Helper()
	want, ok := told(s)
	if !ok {
		checkNoGet(t, s)
		return false
	}
	checkGet(t, s, want)
	// T1: and what is told may be, can be put, and is told again.
	put, e := Put(want, 65535)
	if !May(want) || e != api.OK {
		t.Errorf("P5.2: Get(%q) tells %#v, which may not be (%d)", s, want, e)
	}
	checkGet(t, put, want)
	return true
}

// anyName makes a name by chance.
func anyName(r *rand.Rand) string {
	row := make([]string, r.Intn(api.MaxLabels+1))
	for i := range row {
		row[i] = []string{"a", "b", "net", "lan", "host-1", "12345678", "-"}[r.Intn(7)]
	}
	return strings.Join(row, ".")
}

// anyText makes up to most bytes by chance.
func anyText(r *rand.Rand, most int) string {
	b := make([]byte, r.Intn(most+1))
	for i := range b {
		b[i] = byte(r.Intn(256))
	}
	return string(b)
}

// anyRecord makes one that may be by chance.
func anyRecord(r *rand.Rand) api.RR {
	x := api.RR{Name: anyName(r), Type: types[r.Intn(len(types))], Ttl: r.Intn(api.MaxTime + 1)}
	switch x.Type {
	case api.TypeA:
		x.Addr = r.Intn(1 << 32)
	case api.TypeTxt, api.TypeDhcid:
		x.Text = anyText(r, api.MaxText)
	case api.TypeSoa:
		x.Serial = r.Intn(1 << 32)
		fallthrough
	default:
		x.Target = anyName(r)
	}
	return x
}

// anyMessage makes one that may be by chance, with up to most records in a row.
func anyMessage(r *rand.Rand, most int) api.Dns {
	is := func() bool { return r.Intn(2) == 0 }
	m := api.Dns{Id: r.Intn(65536), Response: is(), Op: r.Intn(16), Authority: is(), Truncated: is(), Recursion: is(), Code: r.Intn(16)}
	for range r.Intn(5) {
		m.Questions = append(m.Questions, api.Question{Name: anyName(r), Type: r.Intn(65536)})
	}
	for _, rs := range rows(&m) {
		for range r.Intn(most + 1) {
			*rs = append(*rs, anyRecord(r))
		}
	}
	if is() {
		m.Size = 512 + r.Intn(65536-512)
	}
	return m
}

// bytesOf gives m's bytes by the chapter's words once more.
func bytesOf(t *testing.T, m api.Dns) string {
	t.Helper()
	bits := m.Op<<11 | m.Code
	for i, is := range []bool{m.Recursion, m.Truncated, m.Authority} {
		if is {
			bits |= 256 << i
		}
	}
	if m.Response {
		bits |= 1 << 15
	}
	more := min(m.Size, 1)
	s := two(m.Id) + two(bits) + two(len(m.Questions)) + two(len(m.Answers)) + two(len(m.Servers)) + two(len(m.Additional)+more)
	var ks []api.Known
	for _, q := range m.Questions {
		n, next, e := wire.Put(len(s), ks, q.Name)
		if e != api.OK {
			t.Fatalf("P3.1: %d", e)
		}
		s, ks = s+n+two(q.Type)+"\x00\x01", next
	}
	for _, r := range slices.Concat(m.Answers, m.Servers, m.Additional) {
		b, next, e := rr.Put(len(s), ks, r)
		if e != api.OK {
			t.Fatalf("P4.1: %d", e)
		}
		s, ks = s+b, next
	}
	if more == 1 {
		s += opt(m.Size)
	}
	return s
}

func TestWhatIsPutIsToldAgain(t *testing.T) {
	r := rand.New(rand.NewSource(5))
	for i := range 600 {
		most := 4
		if i%30 == 0 {
			most = api.MaxRecords
		}
		m := anyMessage(r, most)
		whole, less := bytesOf(t, m), bytesOf(t, cutShort(m))
		checkPut(t, m, 65535, whole)
		checkPut(t, m, len(whole), whole)
		checkGet(t, whole, m)
		checkGet(t, less, cutShort(m))
		if len(less) < len(whole) {
			checkPut(t, m, len(whole)-1, less)
			checkPut(t, m, len(less), less)
		}
		if len(less) > 12 {
			checkNoPut(t, m, len(less)-1, api.ErrDnsLong)
		}
		checkNoGet(t, whole[:r.Intn(len(whole))])
		checkNoGet(t, whole+anyText(r, 20)+"x")
	}
}

func TestGetOfAnyBytes(t *testing.T) {
	r := rand.New(rand.NewSource(55))
	for range 20000 {
		checkTold(t, anyText(r, 80))
		checkTold(t, head(r.Intn(16), r.Intn(2), r.Intn(2), r.Intn(2), r.Intn(3))+anyText(r, 60))
	}
	// Parts that are likely in a message.
	parts := []string{"\x00", "\x01a\x00", "\x01A\xc0\x0c", "\xc0\x0c", "\x00\x01\x00\x01", "\x00\xff\x00\x01", opt(0), opt(1232), "\x00\x00\x29\x04\x00\x01\x02\x03\x04\x00\x02hi", "\xc0\x0c\x00\x29\x04\x00\x00\x00\x00\x00\x00\x00", plainA(1), "\x01b\x00\x00\x05\x00\x01\x00\x00\x00\x3c\x00\x02\xc0\x0c", "\x01b\x00\x00\x10\x00\x01\x00\x00\x00\x3c\x00\x02\x01x", "\x01b\x00\x00\x31\x00\x01\x00\x00\x00\x3c\x00\x00"}
	fine, withOpt := 0, 0
	for range 60000 {
		s := head(r.Intn(16)<<11|r.Intn(16), r.Intn(3), r.Intn(2), r.Intn(2), r.Intn(3))
		for range r.Intn(7) {
			s += parts[r.Intn(len(parts))]
		}
		if checkTold(t, s) {
			fine++
			if m, _ := Get(s); m.Size != 0 {
				withOpt++
			}
		}
	}
	if fine < 500 || withOpt < 100 {
		t.Errorf("of these texts only %d are messages, %d with a size", fine, withOpt)
	}
}

func TestGetOfWhatIsTurned(t *testing.T) {
	r := rand.New(rand.NewSource(555))
	fine, not := 0, 0
	for range 3000 {
		s := bytesOf(t, anyMessage(r, 3))
		for range 8 {
			b := []byte(s)
			for range 1 + r.Intn(2) {
				b[r.Intn(len(s))] = byte(r.Intn(256) >> r.Intn(8))
			}
			if checkTold(t, string(b)) {
				fine++
			} else {
				not++
			}
		}
	}
	if fine < 500 || not < 500 {
		t.Errorf("of these texts %d are messages, %d not", fine, not)
	}
}

// longName is the i-th of names of MaxLabels labels of MaxLabel bytes that have no label in common.
func longName(i int) string {
	label := "abcde" + string([]byte{byte('a' + i/100), byte('0' + i/10%10), byte('0' + i%10)})
	return strings.TrimSuffix(strings.Repeat(label+".", api.MaxLabels), ".")
}

func TestTheGreatestMessages(t *testing.T) {
	// No name leans on another, and far out none is known any more.
	m := api.Dns{Size: 65535}
	n := 0
	next := func() string {
		n++
		return longName(n)
	}
	for range 4 {
		m.Questions = append(m.Questions, api.Question{Name: next(), Type: 65535})
	}
	for _, rs := range rows(&m) {
		for range api.MaxRecords {
			*rs = append(*rs, api.RR{Name: next(), Type: api.TypeSoa, Ttl: api.MaxTime, Target: next(), Serial: 1<<32 - 1})
		}
	}
	s, e := Put(m, 65535)
	if e != api.OK || len(s) < 16384 || s != bytesOf(t, m) {
		t.Fatalf("P5.1: %d bytes, %d", len(s), e)
	}
	checkGet(t, s, m)
	checkPut(t, m, len(s)-1, bytesOf(t, cutShort(m)))
	// Counts that tell of far more than there is, in a long text.
	long := strings.Repeat("\x00", 1<<20)
	checkNoGet(t, head(0, 65535, 65535, 65535, 65535)+long)
	checkNoGet(t, head(0, 0, 65535, 0, 0)+strings.Repeat(plainA(1), 1<<16))
	checkNoGet(t, head(0, 0, 0, 0, 65535)+strings.Repeat(opt(600), 1<<16))
	checkNoGet(t, long)
	checkNoPut(t, api.Dns{Answers: addresses(1 << 20)}, 65535, api.ErrDnsForm)
	checkNoPut(t, api.Dns{Questions: questions(1 << 20)}, 65535, api.ErrDnsForm)
}

func TestManyMayCallAtOneTime(t *testing.T) {
	m := withSize(known(), 4096)
	want := head(32768+1024, 2, 2, 1, 2) + knownBytes + opt(4096)
	var all sync.WaitGroup
	for range 8 {
		all.Go(func() {
			for range 100 {
				s, e := Put(m, 65535)
				got, e2 := Get(want)
				if !May(m) || s != want || e != api.OK || !same(got, m) || e2 != api.OK {
					t.Errorf("R5: %q, %d; %#v, %d", s, e, got, e2)
				}
			}
		})
	}
	all.Wait()
}
