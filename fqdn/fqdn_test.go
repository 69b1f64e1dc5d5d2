package fqdn

import (
	"math"
	"math/rand"
	"regexp"
	"slices"
	"strings"
	"sync"
	"testing"
	"unsafe"

	"pinfold/api"
)

// shape is chapter 2's sentence of which names may be, written anew.
var shape = regexp.MustCompile(`\A([a-z0-9-]{1,8}(\.[a-z0-9-]{1,8}){0,7})?\z`)

// goodFlags are all that may be; wrongFlags are some that may not.
var (
	goodFlags  = []int{4, 5, 6, 7, 12, 13, 14, 15}
	wrongFlags = []int{-1, 0, 1, 2, 3, 8, 9, 10, 11, 16, 17, 20, 21, 31, 36, 127, 132, 255, 256, 260, 1<<32 + 4, -4, -5, -12, -252, math.MinInt, math.MinInt + 4, math.MaxInt, math.MaxInt - 3}
)

// wrongNames may not be.
var wrongNames = []string{
	".", "..", "a.", ".a", "a..b", "a.b.", "A", "a.B", "a_b", "a b", "\x00", "a\x00", "\x01a\x00", "\xff", "é", "\n",
	"123456789", "a.123456789", "123456789.a", "a.b.c.d.e.f.g.h.i", "a.b.c.d.e.f.g.h.", strings.Repeat("a", 1000), strings.Repeat("a.", 1000),
}

// sample is a name, and its bytes without the byte 0 at their end.
type sample struct {
	name   string
	labels string
}

func samples() []sample {
	return []sample{
		{"", ""},
		{"a", "\x01a"},
		{"-", "\x01-"},
		{"lan", "\x03lan"},
		{"host-1", "\x06host-1"},
		{"12345678", "\x0812345678"},
		{"a.a", "\x01a\x01a"},
		{"host-1.lan", "\x06host-1\x03lan"},
		{"b.a.b.a", "\x01b\x01a\x01b\x01a"},
		{"10.0.0.1", "\x0210\x010\x010\x011"},
		{"zyxwvuts.rqponmlk", "\x08zyxwvuts\x08rqponmlk"},
		{"a.bb.ccc.dddd.eeeee.ffffff.ggggggg.hhhhhhhh", "\x01a\x02bb\x03ccc\x04dddd\x05eeeee\x06ffffff\x07ggggggg\x08hhhhhhhh"},
		{named(8, 8), labels(8, 8)},
	}
}

// named is a name of n labels of k letters each.
func named(n, k int) string {
	return strings.TrimSuffix(strings.Repeat(strings.Repeat("a", k)+".", n), ".")
}

// labels is n labels of k letters each in bytes, without a byte 0 at their end.
func labels(n, k int) string {
	return strings.Repeat(one(k)+strings.Repeat("a", k), n)
}

// one is x as a byte.
func one(x int) string {
	return string([]byte{byte(x)})
}

// head is what Put puts ahead of the name.
func head(flags int) string {
	return one(flags) + "\xff\xff"
}

func checkPut(t *testing.T, flags int, name string, want string) {
	t.Helper()
	if s, e := Put(flags, name); s != want || e != api.OK {
		t.Errorf("P8.1: Put(%d, %q): %q, %d; want %q", flags, name, s, e, want)
	}
}

func checkNoPut(t *testing.T, flags int, name string) {
	t.Helper()
	if s, e := Put(flags, name); s != "" || e != api.ErrFqdnForm {
		t.Errorf("P8.1: Put(%d, %q): %q, %d; want %d and nothing beside", flags, name, s, e, api.ErrFqdnForm)
	}
}

func checkGet(t *testing.T, s string, flags int, name string) {
	t.Helper()
	if gotFlags, gotName, e := Get(s); gotFlags != flags || gotName != name || e != api.OK {
		t.Errorf("P8.2: Get(%q): %d, %q, %d; want %d, %q", s, gotFlags, gotName, e, flags, name)
	}
}

func checkNoGet(t *testing.T, s string) {
	t.Helper()
	if flags, name, e := Get(s); flags != 0 || name != "" || e != api.ErrFqdnForm {
		t.Errorf("P8.2: Get(%q): %d, %q, %d; want %d and nothing beside", s, flags, name, e, api.ErrFqdnForm)
	}
}

// checkBoth asks whether a name is put so, and told again with the byte 0 at its end and without.
func checkBoth(t *testing.T, flags int, name string, labels string) {
	t.Helper()
	checkPut(t, flags, name, head(flags)+labels+"\x00")
	checkGet(t, head(flags)+labels+"\x00", flags, name)
	checkGet(t, head(flags)+labels, flags, name)
}

func TestOrdinaryNames(t *testing.T) {
	checkPut(t, 5, "host-1.lan", "\x05\xff\xff\x06host-1\x03lan\x00")
	checkGet(t, "\x05\xff\xff\x06host-1\x03lan\x00", 5, "host-1.lan")
	checkGet(t, "\x05\xff\xff\x06host-1\x03lan", 5, "host-1.lan")
	checkPut(t, 4, "", "\x04\xff\xff\x00")
	for _, flags := range goodFlags {
		for _, c := range samples() {
			checkBoth(t, flags, c.name, c.labels)
		}
	}
}

func TestWhichFlagsMayBePut(t *testing.T) {
	for flags := -600; flags <= 600; flags++ {
		may := slices.Contains(goodFlags, flags)
		for _, c := range samples() {
			if may {
				checkPut(t, flags, c.name, head(flags)+c.labels+"\x00")
			} else {
				checkNoPut(t, flags, c.name)
			}
		}
	}
	for _, flags := range wrongFlags {
		for _, c := range samples() {
			checkNoPut(t, flags, c.name)
		}
	}
}

func TestWhichNamesMayBePut(t *testing.T) {
	for _, name := range wrongNames {
		for _, flags := range goodFlags {
			checkNoPut(t, flags, name)
		}
		for _, flags := range wrongFlags {
			checkNoPut(t, flags, name)
		}
	}
	for b := range 256 {
		for _, name := range []string{one(b), "a" + one(b) + "c", "a." + one(b)} {
			if shape.MatchString(name) {
				labels := ""
				for _, label := range strings.Split(name, ".") {
					labels += one(len(label)) + label
				}
				checkBoth(t, 6, name, labels)
			} else {
				checkNoPut(t, 6, name)
			}
		}
	}
}

func TestHowManyLabelsOfHowManyBytes(t *testing.T) {
	for n := 1; n <= 2*api.MaxLabels; n++ {
		for k := 1; k <= 2*api.MaxLabel; k++ {
			if n <= api.MaxLabels && k <= api.MaxLabel {
				checkBoth(t, 4, named(n, k), labels(n, k))
				continue
			}
			checkNoPut(t, 4, named(n, k))
			checkNoGet(t, head(4)+labels(n, k)+"\x00")
			checkNoGet(t, head(4)+labels(n, k))
		}
	}
	// One label that is too long, at each place of a row that is not.
	for at := range api.MaxLabels {
		before, behind := labels(at, 8), labels(api.MaxLabels-1-at, 8)
		for _, s := range []string{before + labels(1, 9) + behind, before + "\x00" + behind + "\x01a"} {
			checkNoGet(t, head(4)+s)
			checkNoGet(t, head(4)+s+"\x00")
		}
	}
}

func TestGetOfFewBytes(t *testing.T) {
	checkNoGet(t, "")
	for first := range 256 {
		checkNoGet(t, one(first))
		for second := range 256 {
			checkNoGet(t, one(first)+one(second))
		}
		for _, codes := range []string{"\x00\x00", "\xff\xff", "\x01a", "a\x00", "\x00\x01", "\xc0\x00"} {
			for _, c := range samples() {
				for _, s := range []string{c.labels, c.labels + "\x00"} {
					if slices.Contains(goodFlags, first) {
						checkGet(t, one(first)+codes+s, first, c.name)
					} else {
						checkNoGet(t, one(first)+codes+s)
					}
				}
			}
		}
	}
}

func TestGetOfAnyTwoBytesBehindTheFirst(t *testing.T) {
	for x := range 1 << 16 {
		codes := one(x>>8) + one(x)
		checkGet(t, "\x05"+codes+"\x01a\x02bc\x00", 5, "a.bc")
		checkGet(t, "\x0e"+codes+"\x01a\x02bc", 14, "a.bc")
		checkGet(t, "\x04"+codes, 4, "")
		checkGet(t, "\x04"+codes+"\x00", 4, "")
		checkNoGet(t, "\x03"+codes+"\x01a\x00")
		checkNoGet(t, "\x10"+codes)
	}
}

func TestGetOfBytesBehindTheEnd(t *testing.T) {
	for _, c := range samples() {
		whole := head(7) + c.labels + "\x00"
		for b := range 256 {
			checkNoGet(t, whole+one(b))
			checkNoGet(t, whole+one(b)+"\x00")
		}
		for _, more := range []string{"\x01a", "\x01a\x00", "a", "\x00\x00\x00", "\xc0\x00", "\xc0\x00\x00", strings.Repeat("\x00", 1000), strings.Repeat("\x01a", 100)} {
			checkNoGet(t, whole+more)
		}
	}
}

func TestGetOfALabelThatIsCutShort(t *testing.T) {
	for _, c := range samples() {
		// What is told of the first bytes alone, where these are whole labels.
		told := map[int]int{0: 0}
		at := 0
		name := ""
		for _, label := range strings.Split(c.name, ".") {
			at += 1 + len(label)
			name += "." + label
			told[at] = len(name) - 1
		}
		for n := range len(c.labels) {
			if size, is := told[n]; is {
				checkGet(t, head(12)+c.labels[:n], 12, c.name[:size])
				checkGet(t, head(12)+c.labels[:n]+"\x00", 12, c.name[:size])
				continue
			}
			checkNoGet(t, head(12)+c.labels[:n])
			// The byte 0 would be the last one of the label, or is missing as much.
			checkNoGet(t, head(12)+c.labels[:n]+"\x00")
		}
	}
	// A length of 0 is no label: it is the end.
	for size := 1; size < 256; size++ {
		for there := range 12 {
			s := head(4) + one(size) + strings.Repeat("b", there)
			if size == there && size <= api.MaxLabel {
				checkGet(t, s, 4, strings.Repeat("b", there))
				checkGet(t, s+"\x00", 4, strings.Repeat("b", there))
				continue
			}
			checkNoGet(t, s)
			checkNoGet(t, s+"\x00")
		}
	}
}

func TestGetOfEachLength(t *testing.T) {
	for _, c := range []struct{ before, name string }{{"", ""}, {"\x01a", "a."}, {"\x03lan\x08abcdefgh", "lan.abcdefgh."}} {
		for size := 1; size < 256; size++ {
			text := strings.Repeat("c", size)
			s := head(15) + c.before + one(size) + text
			if size <= api.MaxLabel {
				checkGet(t, s, 15, c.name+text)
				checkGet(t, s+"\x00", 15, c.name+text)
				continue
			}
			checkNoGet(t, s)
			checkNoGet(t, s+"\x00")
			checkNoGet(t, s+strings.Repeat("c", 300))
			checkNoGet(t, s+strings.Repeat("\x00", 300))
		}
	}
}

func TestGetOfEachByteOfALabel(t *testing.T) {
	for _, form := range []struct{ labels, name string }{
		{"\x01?", "?"}, {"\x03x?y", "x?y"}, {"\x03?xy", "?xy"}, {"\x03xy?", "xy?"}, {"\x01a\x01?\x03lan", "a.?.lan"}, {"\x08abcdefg?", "abcdefg?"},
	} {
		for b := range 256 {
			s := head(4) + strings.Replace(form.labels, "?", one(b), 1)
			small := one(b)
			if 'A' <= b && b <= 'Z' {
				small = one(b - 'A' + 'a')
			}
			if strings.Contains("abcdefghijklmnopqrstuvwxyz0123456789-", small) {
				name := strings.Replace(form.name, "?", small, 1)
				checkGet(t, s, 4, name)
				checkGet(t, s+"\x00", 4, name)
				continue
			}
			checkNoGet(t, s)
			checkNoGet(t, s+"\x00")
		}
	}
}

func TestGetOfGreatLetters(t *testing.T) {
	for _, c := range samples() {
		for _, s := range []string{c.labels, c.labels + "\x00"} {
			checkGet(t, head(5)+strings.ToUpper(s), 5, c.name)
		}
	}
	checkGet(t, "\x05\xff\xff\x06HoSt-1\x03LAN\x00", 5, "host-1.lan")
	checkGet(t, "\x05\xff\xff\x06HoSt-1\x03LAN", 5, "host-1.lan")
	checkGet(t, "\x04ZZ\x02aZ", 4, "az")
}

func TestGetOfPointers(t *testing.T) {
	// The bytes ahead of the name are a name, or an end, too: no pointer reaches them.
	for _, codes := range []string{"\xff\xff", "\x00\x00", "\x01\x00", "\x01a", "\x00\x01"} {
		for first := 192; first < 256; first++ {
			for second := range 256 {
				pointer := one(first) + one(second)
				for _, before := range []string{"", "\x01a", "\x01a\x03lan"} {
					checkNoGet(t, "\x04"+codes+before+pointer)
				}
				checkNoGet(t, "\x04"+codes+pointer+"\x00")
				checkNoGet(t, "\x04"+codes+"\x01a\x00"+pointer)
			}
			for _, before := range []string{"", "\x01a", "\x08abcdefgh"} {
				checkNoGet(t, "\x04"+codes+before+one(first))
			}
		}
	}
	checkNoGet(t, head(4)+labels(8, 8)+"\xc0\x00")
	checkNoGet(t, head(4)+labels(7, 8)+"\xc0\x00")
	checkNoGet(t, head(4)+"\x01a\xc0\x00\xc0\x02")
	checkNoGet(t, head(4)+"\x01a\x00\x01b\xc0\x00")
	checkNoGet(t, head(4)+"\x01a\x00\x01b\xc0\x03")
}

// toldPlainly reads the chapter a second time, label by label.
func toldPlainly(s string) (int, string, bool) {
	if len(s) < 3 || s[0] > 15 || s[0]%8 < 4 {
		return 0, "", false
	}
	flags, name := int(s[0]), ""
	for s = s[3:]; s != "" && s != "\x00"; {
		size := int(s[0])
		if size == 0 || size > 8 || len(s)-1 < size {
			return 0, "", false
		}
		label := []byte(s[1 : 1+size])
		for i, b := range label {
			if 'A' <= b && b <= 'Z' {
				label[i] += 'a' - 'A'
			}
		}
		// A point is no byte of a label, though a name has it between two.
		if strings.Contains(string(label), ".") || !shape.Match(label) {
			return 0, "", false
		}
		name += "." + string(label)
		s = s[1+size:]
	}
	name = strings.TrimPrefix(name, ".")
	if !shape.MatchString(name) {
		return 0, "", false
	}
	return flags, name, true
}

// checkPlainly holds Get against the second reading; it tells whether s was taken.
func checkPlainly(t *testing.T, s string) bool {
	t.Helper()
	flags, name, is := toldPlainly(s)
	if !is {
		checkNoGet(t, s)
		return false
	}
	checkGet(t, s, flags, name)
	// T1: what is told can be put, and is told again.
	put, e := Put(flags, name)
	if e != api.OK {
		t.Errorf("P8.1: Put(%d, %q), which %q tells: %d", flags, name, s, e)
	}
	checkGet(t, put, flags, name)
	return true
}

func TestAllShortTexts(t *testing.T) {
	for x := range 1 << 16 {
		for _, before := range []string{"", "\x01a", "\x02a"} {
			s := "\x05\xff\xff" + before + one(x>>8) + one(x)
			checkPlainly(t, s)
			checkPlainly(t, s[:len(s)-1])
		}
	}
	some := []string{"\x00", "\x01", "\x02", "a", "A", ".", "\xc0"}
	rows := []string{"\x04\x00\x00"}
	took := 0
	for range 6 {
		var longer []string
		for _, s := range rows {
			for _, b := range some {
				longer = append(longer, s+b)
			}
		}
		rows = longer
		for _, s := range rows {
			if checkPlainly(t, s) {
				took++
			}
		}
	}
	if took < 50 {
		t.Errorf("only %d are taken", took)
	}
}

func TestTextsOfAnyBytes(t *testing.T) {
	r := rand.New(rand.NewSource(8))
	some := []string{"\x01a", "\x01Z", "\x02b-", "\x030a9", "\x08abcdefgh", "\x01a", "\x02bc", "\x00", "\xc0\x00", "\xbf", "\x09", "\x01.", "x"}
	took, rounds := 0, 0
	for range 20000 {
		b := make([]byte, r.Intn(24))
		r.Read(b)
		checkPlainly(t, string(b))
		s := one(goodFlags[r.Intn(len(goodFlags))]) + one(r.Intn(256)) + one(r.Intn(256))
		for range r.Intn(11) {
			// Mostly labels: the first ones of these.
			s += some[min(r.Intn(len(some)), r.Intn(len(some)), r.Intn(len(some)))]
		}
		rounds++
		if checkPlainly(t, s) {
			took++
		}
	}
	if took < rounds/20 || took > rounds*19/20 {
		t.Errorf("%d of %d are taken", took, rounds)
	}
	for _, n := range []int{0, 1, 2, 3, 4, 5, 72, 73, 74, 75, 76, 77, 255, 1200, 1 << 16} {
		for b := range 256 {
			checkPlainly(t, strings.Repeat(one(b), n))
			checkPlainly(t, "\x04\x00\x00"+strings.Repeat(one(b), n))
		}
	}
}

// anyName is one that may be, by chance.
func anyName(r *rand.Rand) string {
	const letters = "abcxyz0189-"
	var row []string
	for range r.Intn(api.MaxLabels + 1) {
		b := make([]byte, 1+r.Intn(api.MaxLabel))
		for i := range b {
			b[i] = letters[r.Intn(len(letters))]
		}
		row = append(row, string(b))
	}
	return strings.Join(row, ".")
}

func TestWhatIsPutIsToldAgain(t *testing.T) {
	r := rand.New(rand.NewSource(88))
	took, rounds := 0, 0
	for range 10000 {
		flags, name := goodFlags[r.Intn(len(goodFlags))], anyName(r)
		s, e := Put(flags, name)
		if e != api.OK {
			t.Fatalf("P8.1: Put(%d, %q): %d", flags, name, e)
		}
		checkGet(t, s, flags, name)
		checkGet(t, strings.TrimSuffix(s, "\x00"), flags, name)
		if !checkPlainly(t, s) {
			t.Fatalf("P8.1: Put(%d, %q): %q", flags, name, s)
		}
		turned := []byte(s)
		turned[r.Intn(len(turned))] = byte(r.Intn(256))
		for _, x := range []string{string(turned), s[:r.Intn(len(s))], s[:len(s)-1] + string(turned[3:])} {
			rounds++
			if checkPlainly(t, x) {
				took++
			}
		}
	}
	if took < rounds/20 || took > rounds*19/20 {
		t.Errorf("%d of %d are taken", took, rounds)
	}
}

func TestPutOfAnyFlagsAndAnyName(t *testing.T) {
	r := rand.New(rand.NewSource(888))
	took := 0
	const rounds = 20000
	for range rounds {
		flags, name := r.Intn(20)-2, []byte(anyName(r))
		if len(name) > 0 && r.Intn(2) == 0 {
			name[r.Intn(len(name))] = ".A_b\x00\xff"[r.Intn(6)]
		}
		if !shape.Match(name) || !slices.Contains(goodFlags, flags) {
			checkNoPut(t, flags, string(name))
			continue
		}
		took++
		want := head(flags)
		for _, label := range strings.Split(string(name), ".") {
			if label != "" {
				want += one(len(label)) + label
			}
		}
		checkBoth(t, flags, string(name), want[3:])
	}
	if took < rounds/20 || took > rounds*19/20 {
		t.Errorf("%d of %d are put", took, rounds)
	}
}

// meet: do two texts share memory.
func meet(a, b string) bool {
	from, to := uintptr(unsafe.Pointer(unsafe.StringData(a))), uintptr(unsafe.Pointer(unsafe.StringData(b)))
	return from < to+uintptr(len(b)) && to < from+uintptr(len(a))
}

func TestAnswersAreTheirOwn(t *testing.T) {
	for _, c := range samples() {
		// Texts of one byte are one everywhere in Go.
		if len(c.name) < 2 {
			continue
		}
		name, old := strings.Clone(c.name), strings.Clone(c.name)
		first, _ := Put(6, name)
		second, _ := Put(6, name)
		if meet(first, name) || meet(second, name) || meet(first, second) || name != old {
			t.Errorf("R4: Put(6, %q) shares memory, or has changed it", old)
		}
		for _, end := range []string{"", "\x00"} {
			s, old := head(6)+c.labels+end, strings.Clone(head(6)+c.labels+end)
			_, first, _ := Get(s)
			_, second, _ := Get(s)
			if meet(first, s) || meet(second, s) || meet(first, second) || s != old {
				t.Errorf("R4: Get(%q) shares memory, or has changed it", old)
			}
		}
	}
}

func TestLongTextsEnd(t *testing.T) {
	const n = 1 << 20
	for _, s := range []string{"\x00", "\x01", "\x01a", "\x08abcdefgh", "\xff", "\xc0\x00", "\xc0", "a", "a.", "."} {
		long := strings.Repeat(s, n)
		checkNoPut(t, 4, long)
		checkNoPut(t, 3, long)
		if flags, name, e := Get("\x04\x00\x00" + long); flags != 0 || name != "" || e != api.ErrFqdnForm {
			t.Errorf("R1: %q again and again: %d, %d bytes, %d", s, flags, len(name), e)
		}
	}
}

func TestCallsAtOneTime(t *testing.T) {
	var all sync.WaitGroup
	for range 8 {
		all.Go(func() {
			for range 50 {
				for _, c := range samples() {
					checkBoth(t, 13, c.name, c.labels)
					checkNoPut(t, 11, c.name)
					checkNoGet(t, head(11)+c.labels)
				}
			}
		})
	}
	all.Wait()
}
