package opts

import (
	"fmt"
	"math"
	"math/rand"
	"slices"
	"strings"
	"sync"
	"testing"

	"pinfold/api"
)

// wrongCodes are some that no option may have.
var wrongCodes = []int{math.MinInt, -256, -255, -1, 0, 255, 256, 257, 256 + api.OptType, 65536 + 1, 1<<32 + 1, math.MaxInt}

// sizes are those of data where something changes, up to the most that there may be.
var sizes = []int{0, 1, 2, 4, 253, 254, 255, 256, 257, 509, 510, 511, api.MaxData}

func checkPut(t *testing.T, os []api.Option, want string) {
	t.Helper()
	if s, e := Put(os); s != want || e != api.OK {
		t.Errorf("P6.1: Put(%.300q): %.300q, %d; want %.300q", fmt.Sprint(os), s, e, want)
	}
}

func checkNoPut(t *testing.T, os []api.Option, want api.Errno) {
	t.Helper()
	if s, e := Put(os); s != "" || e != want {
		t.Errorf("P6.1: Put(%.300q): %.300q, %d; want %d and nothing beside", fmt.Sprint(os), s, e, want)
	}
}

func checkGet(t *testing.T, s string, want []api.Option) {
	t.Helper()
	if os, e := Get(s); !slices.Equal(os, want) || e != api.OK {
		t.Errorf("P6.2: Get(%.300q): %.300q, %d; want %.300q", s, fmt.Sprint(os), e, fmt.Sprint(want))
	}
}

func checkNoGet(t *testing.T, s string) {
	t.Helper()
	if os, e := Get(s); len(os) != 0 || e != api.ErrOptsForm {
		t.Errorf("P6.2: Get(%.300q): %.300q, %d; want %d and nothing beside", s, fmt.Sprint(os), e, api.ErrOptsForm)
	}
}

// checkBoth asks whether these are put so, and told again.
func checkBoth(t *testing.T, os []api.Option, want string) {
	t.Helper()
	checkPut(t, os, want)
	checkGet(t, want, os)
}

func checkFind(t *testing.T, os []api.Option, code int, want string, wantIs bool) {
	t.Helper()
	if data, is := Find(os, code); data != want || is != wantIs {
		t.Errorf("P6.2: Find(%.300q, %d): %.300q, %v; want %.300q, %v", fmt.Sprint(os), code, data, is, want, wantIs)
	}
}

// part is so many bytes of a code, as they stand in a text.
func part(code int, data string) string {
	return string([]byte{byte(code), byte(len(data))}) + data
}

// rising is n options with codes from first on.
func rising(first int, n int, data string) []api.Option {
	var os []api.Option
	for code := first; code < first+n; code++ {
		os = append(os, api.Option{Code: code, Data: data})
	}
	return os
}

// countedData has bytes that tell where they stood, so that none may change its place.
func countedData(n int) string {
	b := make([]byte, n)
	for i := range b {
		b[i] = byte(i*7 + i/256)
	}
	return string(b)
}

func TestOrdinaryOptions(t *testing.T) {
	checkBoth(t, nil, "\xff")
	checkBoth(t, []api.Option{}, "\xff")
	checkBoth(t, []api.Option{{Code: api.OptType, Data: "\x01"}}, "\x35\x01\x01\xff")
	checkBoth(t, []api.Option{{Code: api.OptType, Data: "\x03"}, {Code: api.OptServer, Data: "\x0a\x00\x00\x01"}}, "\x35\x01\x03\x36\x04\x0a\x00\x00\x01\xff")
	checkBoth(t, []api.Option{{Code: api.OptServer, Data: "\x0a\x00\x00\x01"}, {Code: api.OptType, Data: "\x03"}}, "\x36\x04\x0a\x00\x00\x01\x35\x01\x03\xff")
	checkBoth(t, []api.Option{{Code: 9}, {Code: 3, Data: "a"}, {Code: 200}, {Code: 4, Data: "bc"}}, "\x09\x00\x03\x01a\xc8\x00\x04\x02bc\xff")
	checkBoth(t, []api.Option{{Code: api.OptOverload, Data: "\x03"}}, "\x34\x01\x03\xff")
}

func TestHowManyMayBe(t *testing.T) {
	for n := range 2*api.MaxOptions + 1 {
		os := rising(1+n, n, "")
		text := ""
		for _, o := range os {
			text += part(o.Code, "")
		}
		if n <= api.MaxOptions {
			checkBoth(t, os, text+"\xff")
			checkGet(t, text, os)
			continue
		}
		checkNoPut(t, os, api.ErrOptsForm)
		checkNoGet(t, text)
		checkNoGet(t, text+"\xff")
	}
	checkNoPut(t, rising(1, 254, ""), api.ErrOptsForm)
	checkNoPut(t, make([]api.Option, 100000), api.ErrOptsForm)
}

func TestMoreOfAKnownCodeBehindMaxOptions(t *testing.T) {
	os := rising(1, api.MaxOptions, "a")
	s, _ := Put(os)
	s = strings.TrimSuffix(s, "\xff")
	os[0].Data, os[api.MaxOptions-1].Data = "ab", "ac"
	checkGet(t, s+part(1, "b")+part(api.MaxOptions, "c"), os)
	checkNoGet(t, s+part(1, "b")+part(api.MaxOptions+1, ""))
	checkNoGet(t, s+part(254, "")+part(1, "b"))
}

func TestWhichCodesMayBe(t *testing.T) {
	for code := -600; code <= 600; code++ {
		for _, data := range []string{"", "a", "\x00\xff"} {
			if code < 1 || code > 254 {
				checkNoPut(t, []api.Option{{Code: code, Data: data}}, api.ErrOptsForm)
				continue
			}
			checkBoth(t, []api.Option{{Code: code, Data: data}}, part(code, data)+"\xff")
		}
	}
	for _, code := range wrongCodes {
		wrong := api.Option{Code: code, Data: "a"}
		checkNoPut(t, []api.Option{wrong}, api.ErrOptsForm)
		checkNoPut(t, []api.Option{wrong, {Code: 1}, {Code: 2}}, api.ErrOptsForm)
		checkNoPut(t, []api.Option{{Code: 1}, wrong, {Code: 2}}, api.ErrOptsForm)
		checkNoPut(t, []api.Option{{Code: 1}, {Code: 2}, wrong}, api.ErrOptsForm)
	}
}

func TestNoCodeTwice(t *testing.T) {
	for n := 2; n <= api.MaxOptions; n++ {
		for i := range n {
			for j := range i {
				os := rising(100, n, "")
				os[i].Code = os[j].Code
				os[i].Data = "b"
				checkNoPut(t, os, api.ErrOptsForm)
			}
		}
	}
}

func TestCodesInAnyRow(t *testing.T) {
	for _, codes := range [][]int{{1, 2, 3}, {3, 2, 1}, {254, 1}, {2, 254, 1, 53}, {7, 6, 8, 5, 9}} {
		var os []api.Option
		text := ""
		for i, code := range codes {
			os = append(os, api.Option{Code: code, Data: countedData(i)})
			text += part(code, countedData(i))
		}
		checkBoth(t, os, text+"\xff")
	}
}

func TestDataOfAnySize(t *testing.T) {
	for n := range api.MaxData + 2 {
		data := countedData(n)
		var text string
		switch {
		case n <= 255:
			text = part(9, data)
		case n <= 510:
			text = part(9, data[:255]) + part(9, data[255:])
		default:
			text = part(9, data[:255]) + part(9, data[255:510]) + part(9, data[510:])
		}
		os := []api.Option{{Code: 8, Data: "x"}, {Code: 9, Data: data}, {Code: 7, Data: "y"}}
		text = part(8, "x") + text + part(7, "y") + "\xff"
		if n <= api.MaxData {
			checkBoth(t, os, text)
			continue
		}
		checkNoPut(t, os, api.ErrOptsForm)
		checkNoGet(t, text)
	}
	checkNoPut(t, []api.Option{{Code: 1}, {Code: 2, Data: strings.Repeat("a", 1<<20)}}, api.ErrOptsForm)
}

func TestDataOfPadAndEndBytes(t *testing.T) {
	for _, fill := range []string{"\x00", "\xff", "\x00\xff", "\xff\x00"} {
		for _, n := range sizes {
			data := strings.Repeat(fill, n)[:n]
			os := []api.Option{{Code: 5, Data: data}, {Code: 6, Data: "z"}}
			s, e := Put(os)
			if e != api.OK || !strings.HasPrefix(s, part(5, data[:min(n, 255)])) || !strings.HasSuffix(s, part(6, "z")+"\xff") {
				t.Errorf("P6.1: %d bytes of %q: %q, %d", n, fill, s, e)
			}
			checkGet(t, s, os)
			checkGet(t, s[:len(s)-1], os)
		}
	}
}

func TestHowLongAllMayBe(t *testing.T) {
	// 512 bytes take 518, 150 take 152, and OptEnd one more.
	full := []api.Option{{Code: 1, Data: countedData(512)}, {Code: 2, Data: countedData(512)}}
	for n := 150; n <= 175; n++ {
		os := append(slices.Clone(full), api.Option{Code: 3, Data: countedData(n)})
		if size := 518 + 518 + 2 + n + 1; size > api.MaxPacket {
			checkNoPut(t, os, api.ErrOptsLong)
			continue
		}
		s, e := Put(os)
		if len(s) != 518+518+2+n+1 || e != api.OK {
			t.Errorf("P6.1: %d bytes, %d", len(s), e)
		}
		checkGet(t, s, os)
	}
	just := append(slices.Clone(full), api.Option{Code: 3, Data: countedData(161)})
	if s, e := Put(just); len(s) != api.MaxPacket || e != api.OK {
		t.Errorf("P6.1: %d bytes, %d; want %d", len(s), e, api.MaxPacket)
	}
	checkNoPut(t, append(slices.Clone(full), api.Option{Code: 3, Data: countedData(162)}), api.ErrOptsLong)
	// Without data each takes two bytes.
	checkNoPut(t, append(slices.Clone(just), api.Option{Code: 4}), api.ErrOptsLong)
	checkNoPut(t, rising(1, api.MaxOptions, countedData(512)), api.ErrOptsLong)
}

func TestErrorsOfPutInTheirOrder(t *testing.T) {
	long := rising(1, 5, countedData(512))
	checkNoPut(t, long, api.ErrOptsLong)
	for _, wrong := range []api.Option{{Code: 0}, {Code: 255}, {Code: -1}, {Code: 256}, {Code: 5}, {Code: 1}, {Code: 9, Data: countedData(513)}} {
		checkNoPut(t, append(slices.Clone(long), wrong), api.ErrOptsForm)
		checkNoPut(t, append([]api.Option{wrong}, long...), api.ErrOptsForm)
	}
	checkNoPut(t, rising(1, api.MaxOptions+1, countedData(512)), api.ErrOptsForm)
}

func TestGetOfTheEnd(t *testing.T) {
	checkGet(t, "", nil)
	one := []api.Option{{Code: 5, Data: "a"}}
	for _, text := range []string{"", "\x05\x01a"} {
		want := one[:len(text)/3]
		checkGet(t, text, want)
		for _, rest := range []string{"\xff", "\xff\xff", "\xff\x00", "\xff\x05", "\xff\x05\x01", "\xff\x05\x01b", "\xff\x06\x00", "\xff\x06\xffa", "\xff" + strings.Repeat("\x07", 5000), "\xff" + part(5, countedData(255)) + part(5, countedData(255)) + part(5, countedData(255))} {
			checkGet(t, text+rest, want)
		}
	}
	for code := 1; code <= 40; code++ {
		one := "\xff"
		for other := 1; other <= code; other++ {
			one += part(other, "")
		}
		checkGet(t, one, nil)
	}
}

func TestGetOfPads(t *testing.T) {
	want := []api.Option{{Code: 5, Data: "a\x00"}, {Code: 6}, {Code: 7, Data: "\xff"}}
	for _, n := range []int{0, 1, 2, 3, 255, 5000} {
		pads := strings.Repeat("\x00", n)
		checkGet(t, pads, nil)
		checkGet(t, pads+"\xff", nil)
		checkGet(t, pads+"\x05\x02a\x00"+pads+"\x06\x00"+pads+"\x07\x01\xff"+pads, want)
		checkGet(t, pads+"\x05\x02a\x00"+pads+"\x06\x00"+pads+"\x07\x01\xff"+pads+"\xff"+pads, want)
		checkGet(t, "\x05\x01a"+pads+"\x05\x01\x00\x06\x00"+pads+"\x07\x01\xff", want)
	}
	// Behind a code a byte 0 is how many, not a pad.
	checkGet(t, "\x05\x00\x00\x00\x06\x00\x00", []api.Option{{Code: 5}, {Code: 6}})
}

func TestGetOfWhatIsNotThere(t *testing.T) {
	for _, ahead := range []string{"", "\x00", "\x09\x01a", "\x05\x01b", "\x09\x00\x00"} {
		for _, code := range []string{"\x01", "\x05", "\x34", "\xfe"} {
			checkNoGet(t, ahead+code)
			for _, n := range []int{1, 2, 3, 254, 255} {
				for _, there := range []int{0, 1, 2, n - 1} {
					if there < n {
						checkNoGet(t, ahead+code+string([]byte{byte(n)})+strings.Repeat("\x00", there))
						checkNoGet(t, ahead+code+string([]byte{byte(n)})+strings.Repeat("\xff", there))
					}
				}
			}
		}
	}
	// OptEnd where how many must stand is 255, and none are there.
	checkNoGet(t, "\x05\xff")
	checkGet(t, "\x05\xff"+countedData(255), []api.Option{{Code: 5, Data: countedData(255)}})
}

func TestEachTextThatIsCutShort(t *testing.T) {
	os := []api.Option{{Code: 5, Data: countedData(260)}, {Code: 6}, {Code: 7, Data: "ab"}}
	s, _ := Put(os)
	whole := map[int][]api.Option{
		0: nil, 257: {{Code: 5, Data: countedData(255)}}, 264: os[:1], 266: os[:2], 270: os, 271: os,
	}
	if len(s) != 271 {
		t.Fatalf("P6.1: %d bytes", len(s))
	}
	for n := range len(s) + 1 {
		if want, is := whole[n]; is {
			checkGet(t, s[:n], want)
		} else {
			checkNoGet(t, s[:n])
		}
	}
}

func TestPartsOfOneCode(t *testing.T) {
	checkGet(t, part(5, "a")+part(5, "b"), []api.Option{{Code: 5, Data: "ab"}})
	checkGet(t, part(5, "b")+part(5, "a")+part(5, "c"), []api.Option{{Code: 5, Data: "bac"}})
	checkGet(t, part(5, "a")+part(6, "x")+part(5, "b"), []api.Option{{Code: 5, Data: "ab"}, {Code: 6, Data: "x"}})
	checkGet(t, part(6, "x")+part(5, "a")+part(6, "y")+part(4, "q")+part(5, "b")+part(6, "z"), []api.Option{{Code: 6, Data: "xyz"}, {Code: 5, Data: "ab"}, {Code: 4, Data: "q"}})
	checkGet(t, part(5, "")+part(5, ""), []api.Option{{Code: 5}})
	checkGet(t, part(5, "")+part(5, "a"), []api.Option{{Code: 5, Data: "a"}})
	checkGet(t, part(5, "a")+part(5, ""), []api.Option{{Code: 5, Data: "a"}})
	checkGet(t, part(5, "a")+part(5, "")+part(5, "b"), []api.Option{{Code: 5, Data: "ab"}})
	checkGet(t, part(5, "")+part(6, "x")+part(5, "a"), []api.Option{{Code: 5, Data: "a"}, {Code: 6, Data: "x"}})
	checkGet(t, part(6, "x")+part(5, "a")+part(6, ""), []api.Option{{Code: 6, Data: "x"}, {Code: 5, Data: "a"}})
	checkGet(t, strings.Repeat(part(5, ""), 10000), []api.Option{{Code: 5}})
	checkGet(t, strings.Repeat(part(5, "")+part(6, ""), 10000), []api.Option{{Code: 5}, {Code: 6}})
	checkGet(t, strings.Repeat(part(5, "a"), api.MaxData)+"\xff", []api.Option{{Code: 5, Data: strings.Repeat("a", api.MaxData)}})
	checkNoGet(t, strings.Repeat(part(5, "a"), api.MaxData+1)+"\xff")
	checkNoGet(t, strings.Repeat(part(5, "a"), 100000))
}

func TestPartsOfMoreThanMaxData(t *testing.T) {
	x := countedData(255)
	for n := range 256 {
		rest := countedData(n)
		side, between := part(5, x)+part(5, x)+part(5, rest), part(5, x)+part(6, "s")+part(5, rest)+part(7, "")+part(5, x)
		if n <= api.MaxData-510 {
			checkGet(t, side, []api.Option{{Code: 5, Data: x + x + rest}})
			checkGet(t, between, []api.Option{{Code: 5, Data: x + rest + x}, {Code: 6, Data: "s"}, {Code: 7}})
			continue
		}
		for _, s := range []string{side, between} {
			checkNoGet(t, s)
			checkNoGet(t, s+"\xff")
			checkNoGet(t, s+part(5, "")+part(9, "a"))
		}
	}
}

func TestGetOfMoreThanPutPuts(t *testing.T) {
	os := rising(1, api.MaxOptions, countedData(api.MaxData))
	text := ""
	for _, o := range os {
		text += part(o.Code, o.Data[:255]) + part(o.Code, o.Data[255:510]) + part(o.Code, o.Data[510:])
	}
	checkNoPut(t, os, api.ErrOptsLong)
	checkGet(t, text, os)
	checkGet(t, text+"\xff"+text, os)
	checkNoGet(t, text+part(1, "a"))
}

func TestFind(t *testing.T) {
	os := []api.Option{{Code: 5, Data: "a"}, {Code: 6}, {Code: 5, Data: "b"}, {Code: 900, Data: "c"}, {Code: 0, Data: "pad"}, {Code: 255, Data: "end"}, {Code: -1, Data: "d"}, {Code: 7, Data: strings.Repeat("x", 600)}}
	checkFind(t, os, 5, "a", true)
	checkFind(t, os, 6, "", true)
	checkFind(t, os, 7, strings.Repeat("x", 600), true)
	checkFind(t, os, 900, "c", true)
	checkFind(t, os, 0, "pad", true)
	checkFind(t, os, 255, "end", true)
	checkFind(t, os, -1, "d", true)
	checkFind(t, []api.Option{{Code: 5}, {Code: 5, Data: "b"}}, 5, "", true)
	for _, code := range []int{1, 4, 8, 53, 254, 261, 256, 900 - 256, 900 + 256, -2, 1<<32 + 5, math.MinInt, math.MaxInt} {
		checkFind(t, os, code, "", false)
	}
	for _, code := range append([]int{1, 5, 254}, wrongCodes...) {
		checkFind(t, nil, code, "", false)
		checkFind(t, []api.Option{}, code, "", false)
	}
	many := append(make([]api.Option, 100000), api.Option{Code: 5, Data: "last"})
	checkFind(t, many, 5, "last", true)
	checkFind(t, many, 6, "", false)
}

func TestWhatIsHandedInIsNotChanged(t *testing.T) {
	for _, os := range [][]api.Option{
		{{Code: 5, Data: "a"}, {Code: 6, Data: countedData(300)}},
		{{Code: 6}, {Code: 5}},
		{{Code: 5}, {Code: 5}},
		{{Code: 0}},
		rising(1, 5, countedData(512)),
	} {
		room := append(os, api.Option{Code: 77, Data: "room"}, api.Option{Code: 78})
		os = room[:len(os)]
		old := slices.Clone(room)
		Put(os)
		Find(os, 5)
		Find(os, 77)
		if !slices.Equal(room, old) {
			t.Errorf("R4: %v has become %v", old, room)
		}
		checkFind(t, os, 77, "", false)
	}
}

func TestAnswersAreTheirOwn(t *testing.T) {
	s, _ := Put([]api.Option{{Code: 5, Data: "a"}, {Code: 6, Data: countedData(300)}})
	one, _ := Get(s)
	old := slices.Clone(one)
	other, _ := Get(s)
	for i := range one {
		one[i] = api.Option{Code: 99, Data: "changed"}
	}
	_ = append(one[:1], api.Option{Code: 98})
	if !slices.Equal(other, old) {
		t.Errorf("R4: %v has become %v", old, other)
	}
	checkGet(t, s, old)
	os := slices.Clone(old)
	put, _ := Put(os)
	os[0], os[1] = api.Option{}, api.Option{}
	if put != s {
		t.Errorf("R4: %q has become %q", s, put)
	}
}

// anyOptions are some that may be, by chance; their texts may be too long.
func anyOptions(r *rand.Rand) []api.Option {
	var os []api.Option
	for _, code := range r.Perm(254)[:r.Intn(api.MaxOptions+1)] {
		n := r.Intn(5)
		if r.Intn(8) == 0 {
			n = sizes[r.Intn(len(sizes))]
		}
		b := make([]byte, n)
		r.Read(b)
		os = append(os, api.Option{Code: code + 1, Data: string(b)})
	}
	return os
}

func TestWhatIsPutIsToldAgain(t *testing.T) {
	r := rand.New(rand.NewSource(6))
	longs := 0
	for range 4000 {
		os := anyOptions(r)
		s, e := Put(os)
		if e == api.ErrOptsLong {
			longs++
			continue
		}
		if e != api.OK || len(s) > api.MaxPacket {
			t.Fatalf("P6.1: %.300q: %d bytes, %d", fmt.Sprint(os), len(s), e)
		}
		checkGet(t, s, os)
		for _, o := range os {
			checkFind(t, os, o.Code, o.Data, true)
		}
		again, e := Put(os)
		if again != s || e != api.OK {
			t.Fatalf("R5: %q, then %q, %d", s, again, e)
		}
	}
	if longs == 0 || longs == 4000 {
		t.Errorf("%d of 4000 are too long", longs)
	}
}

// toldPlainly reads the chapter a second time: it cuts s into parts first, and joins those of each code behind.
func toldPlainly(s string) ([]api.Option, bool) {
	type piece struct {
		code int
		data string
	}
	var pieces []piece
	for s != "" && s[0] != 255 {
		if s[0] == 0 {
			s = s[1:]
			continue
		}
		if len(s) < 2 || len(s)-2 < int(s[1]) {
			return nil, false
		}
		end := 2 + int(s[1])
		pieces = append(pieces, piece{int(s[0]), s[2:end]})
		s = s[end:]
	}
	var os []api.Option
	for i, p := range pieces {
		if slices.ContainsFunc(pieces[:i], func(q piece) bool { return q.code == p.code }) {
			continue
		}
		all := ""
		for _, q := range pieces[i:] {
			if q.code == p.code {
				all += q.data
			}
		}
		if len(all) > 512 {
			return nil, false
		}
		os = append(os, api.Option{Code: p.code, Data: all})
	}
	if len(os) > 32 {
		return nil, false
	}
	return os, true
}

// checkPlainly holds Get against the second reading; it tells whether s was taken.
func checkPlainly(t *testing.T, s string) bool {
	t.Helper()
	want, is := toldPlainly(s)
	if is {
		checkGet(t, s, want)
	} else {
		checkNoGet(t, s)
	}
	return is
}

func TestTextsOfAnyBytes(t *testing.T) {
	r := rand.New(rand.NewSource(66))
	took := 0
	alphabet := "\x00\x01\x02\x03\x05\x06\x09\x20\xfe\xff"
	const rounds = 60000
	for i := range rounds {
		b := make([]byte, r.Intn(40))
		r.Read(b)
		if i%2 == 0 {
			for j := range b {
				b[j] = alphabet[r.Intn(len(alphabet))]
			}
		}
		if checkPlainly(t, string(b)) {
			took++
		}
	}
	if took < rounds/20 || took > rounds*19/20 {
		t.Errorf("%d of %d are taken", took, rounds)
	}
	for range 300 {
		b := make([]byte, r.Intn(5000))
		r.Read(b)
		checkPlainly(t, string(b))
	}
}

func TestAllShortTexts(t *testing.T) {
	const alphabet = "\x00\x01\x02\x03\xfe\xff"
	texts := []string{""}
	for range 6 {
		var next []string
		for _, s := range texts {
			checkPlainly(t, s)
			for i := range len(alphabet) {
				next = append(next, s+alphabet[i:i+1])
			}
		}
		texts = next
	}
}

func TestTextsWithATurnedByte(t *testing.T) {
	r := rand.New(rand.NewSource(666))
	for range 3000 {
		text := ""
		for range r.Intn(45) {
			b := make([]byte, []int{0, 1, 2, 9, 255}[r.Intn(5)])
			r.Read(b)
			text += part(1+r.Intn(40), string(b))
			text += strings.Repeat("\x00", r.Intn(2)*r.Intn(3))
		}
		text += []string{"", "\xff", "\xffrest"}[r.Intn(3)]
		checkPlainly(t, text)
		for range 3 {
			if text == "" {
				break
			}
			b := []byte(text)
			b[r.Intn(len(b))] = byte(r.Intn(256))
			checkPlainly(t, string(b))
			checkPlainly(t, text[:r.Intn(len(text))])
		}
	}
}

func TestLongTextsEnd(t *testing.T) {
	const n = 1 << 20
	for _, s := range []string{"\x00", "\x01", "\xff", "\x05\x00", "\x05\x01a", "\x01\x00\x02\x00", "\xfe\xfe"} {
		text := strings.Repeat(s, n/len(s))
		os, e := Get(text)
		if e != api.OK && (len(os) != 0 || e != api.ErrOptsForm) {
			t.Errorf("R1: %q again and again: %d options, %d", s, len(os), e)
		}
	}
}

func TestCallsAtOneTime(t *testing.T) {
	os := []api.Option{{Code: 5, Data: countedData(300)}, {Code: 6, Data: "z"}}
	want, _ := Put(os)
	var all sync.WaitGroup
	for range 8 {
		all.Go(func() {
			for range 200 {
				checkBoth(t, os, want)
				checkFind(t, os, 6, "z", true)
			}
		})
	}
	all.Wait()
}
