package packet

import (
	"fmt"
	"math"
	"math/rand"
	"slices"
	"strings"
	"sync"
	"testing"

	"pinfold/api"
)

// same asks whether two packets are one; a list of no options and nil are.
func same(p, q api.Packet) bool {
	return slices.Equal(p.Options, q.Options) && fmt.Sprintf("%#v", bare(p)) == fmt.Sprintf("%#v", bare(q))
}

// bare is p without its options.
func bare(p api.Packet) api.Packet {
	p.Options = nil
	return p
}

func checkPut(t *testing.T, p api.Packet, want string) {
	t.Helper()
	if !May(p) {
		t.Errorf("P7.1: May(%.300q) is false", fmt.Sprint(p))
	}
	if s, e := Put(p); s != want || e != api.OK {
		t.Errorf("P7.1: Put(%.300q): %q, %d; want %q", fmt.Sprint(p), s, e, want)
	}
}

// checkNoPut asks whether p is refused; it may be all the same where its options are only too long.
func checkNoPut(t *testing.T, p api.Packet, may bool) {
	t.Helper()
	if May(p) != may {
		t.Errorf("P7.1: May(%.300q) is %v", fmt.Sprint(p), !may)
	}
	if s, e := Put(p); s != "" || e != api.ErrPacketForm {
		t.Errorf("P7.1: Put(%.300q): %q, %d; want %d and nothing beside", fmt.Sprint(p), s, e, api.ErrPacketForm)
	}
}

func checkGet(t *testing.T, s string, want api.Packet) {
	t.Helper()
	if p, e := Get(s); !same(p, want) || e != api.OK {
		t.Errorf("P7.2: Get(%q): %.600q, %d; want %.600q", s, fmt.Sprint(p), e, fmt.Sprint(want))
	}
}

func checkNoGet(t *testing.T, s string) {
	t.Helper()
	if p, e := Get(s); !same(p, api.Packet{}) || e != api.ErrPacketForm {
		t.Errorf("P7.2: Get(%q): %.600q, %d; want %d and nothing beside", s, fmt.Sprint(p), e, api.ErrPacketForm)
	}
}

// checkBoth asks whether p is put so, and told again.
func checkBoth(t *testing.T, p api.Packet, want string) {
	t.Helper()
	checkPut(t, p, want)
	checkGet(t, want, p)
}

// checkOptions asks for the options alone.
func checkOptions(t *testing.T, s string, want ...api.Option) {
	t.Helper()
	if p, e := Get(s); !slices.Equal(p.Options, want) || e != api.OK {
		t.Errorf("P7.2: Get(%q): options %.600q, %d; want %.600q", s, fmt.Sprint(p.Options), e, fmt.Sprint(want))
	}
}

// part is so many bytes of a code, as they stand in a text.
func part(code int, data string) string {
	return string([]byte{byte(code), byte(len(data))}) + data
}

// option is one of a code.
func option(code int, data string) api.Option {
	return api.Option{Code: code, Data: data}
}

// countedText has bytes that tell where they stand.
func countedText(n int) string {
	b := make([]byte, n)
	for i := range b {
		b[i] = byte(i*7 + i/256 + 1)
	}
	return string(b)
}

const cookie = "\x63\x82\x53\x63"

// zeros is n bytes 0.
func zeros(n int) string {
	return strings.Repeat("\x00", n)
}

// padded is s, and bytes 0 behind it up to n.
func padded(s string, n int) string {
	return s + zeros(n-len(s))
}

// laid is a packet whose 192 bytes are boot's 64 and file's 128, with these options behind Cookie.
func laid(boot, file, behind string) string {
	return "\x01\x01\x02" + zeros(25) + padded("\xaa\xbb", 16) + padded(boot, 64) + padded(file, 128) + cookie + behind
}

// ordinary is a packet with each field unlike the others.
func ordinary() (api.Packet, string) {
	p := api.Packet{
		Op: 1, Htype: 2, Hops: 3, Xid: 0x11121314, Secs: 0x2122, Flags: 0x8001,
		Ciaddr: 0x0a000005, Yiaddr: 0x0b010206, Siaddr: api.Server, Giaddr: 0xfffefdfc,
		Chaddr:  "\x02\x00\x5e\x10\x20\x30",
		Options: []api.Option{option(api.OptType, "\x01"), option(api.OptClient, "c1")},
	}
	return p, "\x01\x02\x06\x03\x11\x12\x13\x14\x21\x22\x80\x01\x0a\x00\x00\x05\x0b\x01\x02\x06\x0a\x00\x00\x01\xff\xfe\xfd\xfc" +
		"\x02\x00\x5e\x10\x20\x30" + zeros(10+192) + cookie + "\x35\x01\x01\x3d\x02c1\xff"
}

func TestAnOrdinaryPacket(t *testing.T) {
	p, s := ordinary()
	checkBoth(t, p, s)
	p.Options = nil
	checkBoth(t, p, s[:240]+"\xff")
	checkGet(t, s[:240], p)
	p.Options = []api.Option{}
	checkBoth(t, p, s[:240]+"\xff")
	checkBoth(t, api.Packet{}, zeros(236)+cookie+"\xff")
	checkGet(t, zeros(236)+cookie, api.Packet{})
	if api.HeaderSize != 240 || api.Cookie != 0x63825363 {
		t.Errorf("HeaderSize %d, Cookie %d", api.HeaderSize, api.Cookie)
	}
}

// field is one of a packet's numbers: where it stands, in how many bytes.
type field struct {
	name string
	at   int
	size int
	of   func(p *api.Packet) *int
}

func fields() []field {
	return []field{
		{"Op", 0, 1, func(p *api.Packet) *int { return &p.Op }},
		{"Htype", 1, 1, func(p *api.Packet) *int { return &p.Htype }},
		{"Hops", 3, 1, func(p *api.Packet) *int { return &p.Hops }},
		{"Xid", 4, 4, func(p *api.Packet) *int { return &p.Xid }},
		{"Secs", 8, 2, func(p *api.Packet) *int { return &p.Secs }},
		{"Flags", 10, 2, func(p *api.Packet) *int { return &p.Flags }},
		{"Ciaddr", 12, 4, func(p *api.Packet) *int { return &p.Ciaddr }},
		{"Yiaddr", 16, 4, func(p *api.Packet) *int { return &p.Yiaddr }},
		{"Siaddr", 20, 4, func(p *api.Packet) *int { return &p.Siaddr }},
		{"Giaddr", 24, 4, func(p *api.Packet) *int { return &p.Giaddr }},
	}
}

// inBytes is x in n bytes.
func inBytes(x, n int) string {
	var b []byte
	for i := n - 1; i >= 0; i-- {
		b = append(b, byte(x>>(8*i)))
	}
	return string(b)
}

func TestEachNumberOfTheHead(t *testing.T) {
	p, s := ordinary()
	for _, f := range fields() {
		most := 1<<(8*f.size) - 1
		for _, x := range []int{0, 1, 2, 127, 128, 254, 255, 256, 257, 32768, 65535, 65536, 1 << 24, 1<<31 - 1, 1 << 31, most - 1, most} {
			if x > most {
				continue
			}
			q := p
			*f.of(&q) = x
			checkBoth(t, q, s[:f.at]+inBytes(x, f.size)+s[f.at+f.size:])
			q = api.Packet{}
			*f.of(&q) = x
			checkBoth(t, q, zeros(f.at)+inBytes(x, f.size)+zeros(236-f.at-f.size)+cookie+"\xff")
		}
		for _, x := range []int{-1, -2, -256, most + 1, most + 2, 2*most + 1, 1 << 40, -1 << 32, math.MinInt, math.MaxInt, math.MinInt + 1} {
			q := p
			*f.of(&q) = x
			checkNoPut(t, q, false)
			q = api.Packet{}
			*f.of(&q) = x
			checkNoPut(t, q, false)
		}
	}
}

func TestChaddrOfAnySize(t *testing.T) {
	p, s := ordinary()
	for n := range 40 {
		p.Chaddr = countedText(n)
		if n > 16 {
			checkNoPut(t, p, false)
			continue
		}
		checkBoth(t, p, s[:2]+inBytes(n, 1)+s[3:28]+padded(p.Chaddr, 16)+s[44:])
		p.Chaddr = zeros(n)
		checkBoth(t, p, s[:2]+inBytes(n, 1)+s[3:28]+zeros(16)+s[44:])
		p.Chaddr = strings.Repeat("\xff", n)
		checkBoth(t, p, s[:2]+inBytes(n, 1)+s[3:28]+padded(p.Chaddr, 16)+s[44:])
	}
	for _, n := range []int{255, 256, 257, 256 + 16, 1 << 20} {
		p.Chaddr = zeros(n)
		checkNoPut(t, p, false)
	}
}

func TestGetOfChaddrsLength(t *testing.T) {
	p, s := ordinary()
	whole := countedText(16)
	for n := range 256 {
		text := s[:2] + inBytes(n, 1) + s[3:28] + whole + s[44:]
		if n > 16 {
			checkNoGet(t, text)
			continue
		}
		p.Chaddr = whole[:n]
		checkGet(t, text, p)
	}
}

func TestOptionsThatMayBeAndThatMayNot(t *testing.T) {
	p, s := ordinary()
	with := func(os ...api.Option) api.Packet {
		q := p
		q.Options = os
		return q
	}
	head := s[:240]
	checkBoth(t, with(option(1, "")), head+"\x01\x00\xff")
	checkBoth(t, with(option(254, "a"), option(1, "b")), head+"\xfe\x01a\x01\x01b\xff")
	long := countedText(512)
	checkBoth(t, with(option(9, long)), head+part(9, long[:255])+part(9, long[255:510])+part(9, long[510:])+"\xff")
	for _, code := range []int{math.MinInt, -1, 0, 255, 256, 256 + 53, math.MaxInt} {
		checkNoPut(t, with(option(code, "")), false)
		checkNoPut(t, with(option(1, ""), option(code, "")), false)
	}
	checkNoPut(t, with(option(5, ""), option(5, "")), false)
	checkNoPut(t, with(option(5, "a"), option(6, "a"), option(5, "b")), false)
	checkNoPut(t, with(option(5, countedText(513))), false)
	var many []api.Option
	text := ""
	for n := range api.MaxOptions + 3 {
		if n <= api.MaxOptions {
			checkBoth(t, with(many...), head+text+"\xff")
		} else {
			checkNoPut(t, with(many...), false)
		}
		many = append(many, option(200-n, "x"))
		text += part(200-n, "x")
	}
	checkNoPut(t, with(make([]api.Option, 100000)...), false)
}

func TestOptionsThatAreTooLong(t *testing.T) {
	p, s := ordinary()
	long := countedText(512)
	in := part(1, long[:255]) + part(1, long[255:510]) + part(1, long[510:]) + part(2, long[:255]) + part(2, long[255:510]) + part(2, long[510:])
	for n := 150; n < 175; n++ {
		p.Options = []api.Option{option(1, long), option(2, long), option(3, long[:n])}
		if 2*518+2+n+1 > api.MaxPacket {
			checkNoPut(t, p, true)
			continue
		}
		checkBoth(t, p, s[:240]+in+part(3, long[:n])+"\xff")
	}
	// Too long, and wrong besides: it may not be.
	q := p
	q.Op = 256
	checkNoPut(t, q, false)
	q = p
	q.Chaddr = zeros(17)
	checkNoPut(t, q, false)
	q = p
	q.Options = append(slices.Clone(p.Options), option(1, ""))
	checkNoPut(t, q, false)
	q.Options = append(slices.Clone(p.Options), option(255, ""))
	checkNoPut(t, q, false)
}

func TestPutOfOptOverload(t *testing.T) {
	p, s := ordinary()
	for _, data := range []string{"", "\x00", "\x01", "\x02", "\x03", "\x04", "\x01\x01"} {
		p.Options = []api.Option{option(5, "a"), option(api.OptOverload, data), option(6, "b")}
		put := s[:240] + "\x05\x01a" + part(52, data) + "\x06\x01b\xff"
		checkPut(t, p, put)
		// The two places are empty, so what they add is nothing.
		if len(data) == 1 && '\x01' <= data[0] && data[0] <= '\x03' {
			p.Options = []api.Option{option(5, "a"), option(6, "b")}
		}
		checkGet(t, put, p)
	}
}

func TestGetOfTooFewBytes(t *testing.T) {
	p, s := ordinary()
	for n := range api.HeaderSize {
		checkNoGet(t, s[:n])
		checkNoGet(t, zeros(n))
		checkNoGet(t, (zeros(236) + cookie)[:n])
	}
	q := p
	q.Options = nil
	checkGet(t, s[:240], q)
	checkNoGet(t, s[:241])
	checkNoGet(t, s[:242])
	q.Options = p.Options[:1]
	checkGet(t, s[:243], q)
	for n := 244; n < len(s)-1; n++ {
		checkNoGet(t, s[:n])
	}
	checkGet(t, s[:len(s)-1], p)
	checkGet(t, s, p)
	checkGet(t, s+"rest\x05", p)
}

func TestGetOfAWrongCookie(t *testing.T) {
	p, s := ordinary()
	for at := 236; at < 240; at++ {
		for x := range 256 {
			text := s[:at] + inBytes(x, 1) + s[at+1:]
			if text == s {
				checkGet(t, text, p)
			} else {
				checkNoGet(t, text)
			}
		}
	}
	checkNoGet(t, s[:236]+s[240:])
	checkNoGet(t, s[:235]+s[236:])
	checkNoGet(t, s[:236]+"\x00"+s[236:])
	checkNoGet(t, s[:236]+"\x63\x53\x82\x63"+s[240:])
	checkNoGet(t, zeros(240))
	checkNoGet(t, cookie+zeros(236))
}

func TestWhatStandsBetweenIsWhatever(t *testing.T) {
	p, s := ordinary()
	r := rand.New(rand.NewSource(71))
	for n := range 17 {
		p.Chaddr = countedText(n)
		s = s[:2] + inBytes(n, 1) + s[3:28] + padded(p.Chaddr, 16) + s[44:]
		for at := 28 + n; at < 236; at++ {
			for _, x := range []string{"\x01", "\x34", "\xff"} {
				checkGet(t, s[:at]+x+s[at+1:], p)
			}
		}
		for _, x := range []string{"\x01", "\x34", "\x34\x01\x03", "\x63", "\xff", cookie} {
			checkGet(t, s[:28+n]+strings.Repeat(x, 300)[:208-n]+s[236:], p)
		}
		for range 50 {
			b := make([]byte, 208-n)
			r.Read(b)
			checkGet(t, s[:28+n]+string(b)+s[236:], p)
		}
	}
}

func TestOptionsThatLayer6Refuses(t *testing.T) {
	_, s := ordinary()
	head := s[:240]
	for _, behind := range []string{"\x05", "\x05\x01", "\x05\xff", "\x00\x00\xfe", "\x05\x02a", "\x34\x01\x01\x05", "\x34\x01\x01\x05\x02a", strings.Repeat(part(5, countedText(171)), 3)} {
		checkNoGet(t, head+behind)
	}
	behind := ""
	for code := 1; code <= 33; code++ {
		behind += part(code, "")
	}
	checkNoGet(t, head+behind)
	// Also where OptOverload is among them, which is left out only behind that.
	checkNoGet(t, head+part(52, "\x01")+behind[:2*32])
	if _, e := Get(head + behind[:2*32]); e != api.OK {
		t.Errorf("P7.2: 32 options: %d", e)
	}
}

// The two places of the 192 bytes, with options of their own and some of one code.
const (
	bootText = "\x07\x01b\x08\x01B\xff\x09"
	fileText = "\x06\x01f\x08\x01F\xff\x0a\x09"
)

func TestOverloadOfEachKind(t *testing.T) {
	five, m := option(5, "a"), option(8, "M")
	for _, c := range []struct {
		behind string
		want   []api.Option
	}{
		{"\x05\x01a\x08\x01M", []api.Option{five, m}},
		{"\x34\x00\x05\x01a\x08\x01M", []api.Option{option(52, ""), five, m}},
		{"\x05\x01a\x34\x01\x00\x08\x01M", []api.Option{five, option(52, "\x00"), m}},
		{"\x05\x01a\x34\x01\x01\x08\x01M", []api.Option{five, option(8, "MF"), option(6, "f")}},
		{"\x05\x01a\x34\x01\x02\x08\x01M", []api.Option{five, option(8, "MB"), option(7, "b")}},
		{"\x05\x01a\x34\x01\x03\x08\x01M", []api.Option{five, option(8, "MFB"), option(6, "f"), option(7, "b")}},
		{"\x05\x01a\x34\x01\x04\x08\x01M", []api.Option{five, option(52, "\x04"), m}},
		{"\x05\x01a\x34\x01\xff\x08\x01M", []api.Option{five, option(52, "\xff"), m}},
		{"\x34\x01\x03", []api.Option{option(6, "f"), option(8, "FB"), option(7, "b")}},
		{"\x34\x01\x01", []api.Option{option(6, "f"), option(8, "F")}},
		{"\x34\x01\x02", []api.Option{option(7, "b"), option(8, "B")}},
		// Of two bytes it is an option like others, in one part or in two.
		{"\x34\x02\x01\x01\x05\x01a", []api.Option{option(52, "\x01\x01"), five}},
		{"\x34\x02\x03\x00", []api.Option{option(52, "\x03\x00")}},
		{"\x34\x02\x00\x01", []api.Option{option(52, "\x00\x01")}},
		{"\x34\x01\x01\x05\x01a\x34\x01\x02", []api.Option{option(52, "\x01\x02"), five}},
		// Of one byte in two parts.
		{"\x34\x00\x05\x01a\x34\x01\x01", []api.Option{five, option(6, "f"), option(8, "F")}},
		{"\x34\x01\x02\x05\x01a\x34\x00", []api.Option{five, option(7, "b"), option(8, "B")}},
		// Behind OptEnd it is nothing.
		{"\x05\x01a\xff\x34\x01\x03", []api.Option{five}},
		{"\x34\x01\x01\xff\x34\x01\x02", []api.Option{option(6, "f"), option(8, "F")}},
	} {
		checkOptions(t, laid(bootText, fileText, c.behind), c.want...)
		checkOptions(t, laid(bootText, fileText, c.behind+"\xff"), c.want...)
		checkOptions(t, laid(bootText, fileText, c.behind+"\xff\x05\x09"), c.want...)
	}
	for x := range 256 {
		if x < 1 || x > 3 {
			data := inBytes(x, 1)
			checkOptions(t, laid(bootText, fileText, part(52, data)), option(52, data))
		}
	}
}

func TestTheHeadStandsBesideAnOverload(t *testing.T) {
	p, s := ordinary()
	p.Chaddr = countedText(16)
	s = s[:2] + "\x10" + s[3:28] + p.Chaddr
	p.Options = []api.Option{option(6, "f"), option(8, "FB"), option(7, "b")}
	checkGet(t, s+padded(bootText, 64)+padded(fileText, 128)+cookie+"\x34\x01\x03", p)
}

func TestWhichBytesAreReadBesides(t *testing.T) {
	// Each place is one option that takes it whole.
	file, boot := countedText(126), countedText(62)
	text := laid(part(7, boot), part(6, file), "")
	checkOptions(t, text)
	checkOptions(t, text+"\x34\x01\x01", option(6, file))
	checkOptions(t, text+"\x34\x01\x02", option(7, boot))
	checkOptions(t, text+"\x34\x01\x03", option(6, file), option(7, boot))
	// The last byte of each, and the first one.
	for _, c := range []struct {
		at   int
		kind string
		is   bool
	}{
		{43, "\x01", false}, {43, "\x02", false}, {43, "\x03", false},
		{44, "\x01", false}, {44, "\x02", true}, {44, "\x03", true},
		{107, "\x01", false}, {107, "\x02", true}, {107, "\x03", true},
		{108, "\x01", true}, {108, "\x02", false}, {108, "\x03", true},
		{235, "\x01", true}, {235, "\x02", false}, {235, "\x03", true},
	} {
		// A code, and bytes behind it that may be how many: only at the end of a place they are not there.
		text := laid("", "", "\x34\x01"+c.kind)
		text = text[:c.at] + "\x09" + text[c.at+1:]
		last := c.at == 107 || c.at == 235
		switch {
		case c.is && last:
			checkNoGet(t, text)
		case c.is:
			checkOptions(t, text, option(9, ""))
		default:
			checkOptions(t, text)
		}
	}
}

func TestDataOfOneCodeInSeveralPlaces(t *testing.T) {
	a := func(data string) string { return part(9, data) }
	checkOptions(t, laid(a("b"), a("f"), a("m")+"\x34\x01\x03"), option(9, "mfb"))
	checkOptions(t, laid(a("b"), a("f"), "\x34\x01\x03"+a("m")), option(9, "mfb"))
	checkOptions(t, laid(a("b"), a("f"), "\x34\x01\x03"), option(9, "fb"))
	checkOptions(t, laid(a("b"), "", "\x34\x01\x03"+a("m")), option(9, "mb"))
	checkOptions(t, laid("", a("f"), "\x34\x01\x03"+a("m")), option(9, "mf"))
	checkOptions(t, laid(a(""), a(""), "\x34\x01\x03"+a("")), option(9, ""))
	checkOptions(t, laid(a("b"), a(""), "\x34\x01\x03"+a("")), option(9, "b"))
	checkOptions(t, laid(a("1")+part(3, "x")+a("2"), part(4, "y")+a("3")+a("4"), a("5")+"\x34\x01\x03"+part(3, "z")+a("6")),
		option(9, "563412"), option(3, "zx"), option(4, "y"))
	checkOptions(t, laid(part(1, "b1")+part(2, "b2")+part(3, "b3"), part(3, "f3")+part(1, "f1"), "\x34\x01\x03"+part(2, "m2")),
		option(2, "m2b2"), option(3, "f3b3"), option(1, "f1b1"))
}

func TestPadsAndEndsOfEachPlace(t *testing.T) {
	checkOptions(t, laid("\xff\x09\x01b", "\xff\x09\x01f", "\x34\x01\x03\xff\x09\x01m"))
	checkOptions(t, laid("\x09\x01b", "\xff", "\x34\x01\x03\xff"), option(9, "b"))
	checkOptions(t, laid("\xff", "\x09\x01f", "\x34\x01\x03\xff"), option(9, "f"))
	checkOptions(t, laid("\x00\x00\x09\x01b\x00\x09\x01c", "\x00\x09\x01f", "\x00\x34\x01\x03\x00"), option(9, "fbc"))
	checkOptions(t, laid(strings.Repeat("\xff", 64), strings.Repeat("\xff", 128), "\x34\x01\x03"))
	checkOptions(t, laid("", "", "\x34\x01\x03"))
	// No option goes on in the next place.
	checkNoGet(t, laid("\x09\x01b", zeros(126)+"\x09\x01", "\x34\x01\x03"))
	checkNoGet(t, laid(zeros(62)+"\x09\x01", "\x09\x01f", "\x34\x01\x03"))
	checkNoGet(t, laid(zeros(63)+"\x09", "\x01f", "\x34\x01\x03"))
}

func TestDataThatEndInOptEndsByte(t *testing.T) {
	checkOptions(t, laid("\x09\x02b\xff", "\x09\x02\xff\xff\x08\x01\xff", "\x07\x01\xff\x34\x01\x03\x09\x01\xff\xff"),
		option(7, "\xff"), option(9, "\xff\xff\xffb\xff"), option(8, "\xff"))
	checkOptions(t, laid("\x09\x02\x00\x00", "\x09\x02\x00\x00\x08\x01\x00", "\x34\x01\x03\x09\x01\x00"),
		option(9, "\x00\x00\x00\x00\x00"), option(8, "\x00"))
}

func TestOptOverloadInTheTwoPlaces(t *testing.T) {
	for _, data := range []string{"", "\x00", "\x01", "\x02", "\x03", "\x04", "\x01\x02", countedText(60)} {
		in := part(52, data)
		checkOptions(t, laid(in, "\x06\x01f", "\x05\x01a"), option(5, "a"))
		checkOptions(t, laid("\x07\x01b", in+"\x00\x00", "\x05\x01a\x34\x01\x01"), option(5, "a"))
		checkOptions(t, laid(in, "\x06\x01f", "\x05\x01a\x34\x01\x02"), option(5, "a"))
		checkOptions(t, laid(in, in+"\x06\x01f", "\x05\x01a\x34\x01\x03"), option(5, "a"), option(6, "f"))
		checkOptions(t, laid(in, in+"\x06\x01f", "\x05\x01a\x34\x01\x01"), option(5, "a"), option(6, "f"))
	}
}

func TestAPlaceThatLayer6Refuses(t *testing.T) {
	fine := "\x09\x01a"
	badBoot := []string{zeros(63) + "\x07", zeros(62) + "\x07\x01", "\x07\x3f", "\x09\x01a\x07\xff", countedText(1) + "\xff" + zeros(60)}
	for _, boot := range badBoot {
		checkOptions(t, laid(boot, fine, ""))
		checkOptions(t, laid(boot, fine, "\x34\x01\x01"), option(9, "a"))
		checkNoGet(t, laid(boot, fine, "\x34\x01\x02"))
		checkNoGet(t, laid(boot, fine, "\x34\x01\x03"))
	}
	badFile := []string{zeros(127) + "\x07", zeros(126) + "\x07\x01", "\x07\x7f", "\x09\x01a\x07\xff"}
	for _, file := range badFile {
		checkOptions(t, laid(fine, file, ""))
		checkOptions(t, laid(fine, file, "\x34\x01\x02"), option(9, "a"))
		checkNoGet(t, laid(fine, file, "\x34\x01\x01"))
		checkNoGet(t, laid(fine, file, "\x34\x01\x03"))
	}
	// The place of 128 bytes has room for more codes than there may be.
	codes := ""
	for code := 1; code <= 33; code++ {
		codes += part(code, "")
	}
	checkNoGet(t, laid("", codes, "\x34\x01\x01"))
	checkOptions(t, laid("", codes, "\x34\x01\x02"))
	// Also where the one too many would be left out.
	checkNoGet(t, laid("", codes[:2*32]+part(52, ""), "\x34\x01\x01"))
}

// row is options without data of n codes from first on, and their text.
func row(first, n int) ([]api.Option, string) {
	var os []api.Option
	text := ""
	for code := first; code < first+n; code++ {
		os = append(os, option(code, ""))
		text += part(code, "")
	}
	return os, text
}

func TestTooManyCodesTogether(t *testing.T) {
	for _, kind := range []string{"\x01", "\x02", "\x03"} {
		for n := range 32 {
			m := 32 - n
			osBehind, behind := row(100, n)
			osPlace, place := row(200, m)
			_, more := row(200, min(m+1, 32))
			boot, file := place, place
			if kind == "\x01" {
				boot = "\x07"
			}
			if kind == "\x02" {
				file = "\x07"
			}
			if len(boot) > 64 {
				continue
			}
			checkOptions(t, laid(boot, file, part(52, kind)+behind), append(slices.Clone(osBehind), osPlace...)...)
			if len(more) <= 64 && n > 0 {
				boot, file = more, more
				checkNoGet(t, laid(boot, file, part(52, kind)+behind))
			}
		}
	}
	// OptOverload is left out, so that it is not one of the 32.
	osBehind, behind := row(100, 31)
	checkOptions(t, laid("", part(200, ""), behind+part(52, "\x01")), append(slices.Clone(osBehind), option(200, ""))...)
	checkNoGet(t, laid("", part(200, "")+part(201, ""), behind+part(52, "\x01")))
	checkNoGet(t, laid(part(201, ""), part(200, ""), behind+part(52, "\x03")))
	checkOptions(t, laid(part(200, ""), part(200, ""), behind+part(52, "\x03")), append(slices.Clone(osBehind), option(200, ""))...)
	// Each place has few; only the three together have too many.
	os1, a := row(1, 11)
	os2, b := row(60, 11)
	os3, c := row(90, 10)
	checkOptions(t, laid(c, b, a+part(52, "\x03")), slices.Concat(os1, os2, os3)...)
	checkNoGet(t, laid(c+part(130, ""), b, a+part(52, "\x03")))
	checkOptions(t, laid(c+part(130, ""), b, a+part(52, "\x02")), slices.Concat(os1, os3, []api.Option{option(130, "")})...)
}

func TestTooManyDataTogether(t *testing.T) {
	x := countedText(510)
	behind := part(5, x[:255]) + part(5, x[255:])
	for n := range 63 {
		data := countedText(n)
		for _, kind := range []string{"\x01", "\x02"} {
			text := laid(part(5, data), part(5, data), part(52, kind)+behind)
			if 510+n <= 512 {
				checkOptions(t, text, option(5, x+data))
			} else {
				checkNoGet(t, text)
			}
		}
		text := laid(part(5, data), part(5, data), part(52, "\x03")+behind)
		if 510+2*n <= 512 {
			checkOptions(t, text, option(5, x+data+data))
		} else {
			checkNoGet(t, text)
		}
		checkOptions(t, laid(part(5, data), part(5, data), behind), option(5, x))
	}
	checkNoGet(t, laid(part(5, "a"), part(5, "ab"), part(52, "\x03")+behind))
	checkNoGet(t, laid(part(5, "ab"), part(5, "a"), part(52, "\x03")+behind))
	// 324 behind, 126 and 62 in the places are just 512.
	file, boot := countedText(126), countedText(62)
	behind = part(5, x[:255]) + part(5, x[255:324])
	checkOptions(t, laid(part(5, boot), part(5, file), behind+part(52, "\x03")), option(5, x[:324]+file+boot))
	behind = part(5, x[:255]) + part(5, x[255:325])
	checkNoGet(t, laid(part(5, boot), part(5, file), behind+part(52, "\x03")))
}

func TestGetOfMoreThanPutPuts(t *testing.T) {
	x := countedText(512)
	var os []api.Option
	behind := ""
	for code := 1; code <= 31; code++ {
		os = append(os, option(code, x))
		behind += part(code, x[:255]) + part(code, x[255:510]) + part(code, x[510:])
	}
	checkOptions(t, laid("", "", behind), os...)
	checkOptions(t, laid("", part(99, "f"), behind+part(52, "\x01")), append(slices.Clone(os), option(99, "f"))...)
	checkNoGet(t, laid("", part(31, "f"), behind+part(52, "\x01")))
}

func TestWhatIsHandedInIsNotChanged(t *testing.T) {
	p, _ := ordinary()
	for _, os := range [][]api.Option{p.Options, {option(5, ""), option(5, "")}, {option(52, "\x01"), option(5, countedText(300))}, {option(0, "")}} {
		room := append(slices.Clone(os), option(77, "room"), option(78, ""))
		old := slices.Clone(room)
		q := p
		q.Options = room[:len(os)]
		May(q)
		Put(q)
		if !slices.Equal(room, old) {
			t.Errorf("R4: %v has become %v", old, room)
		}
	}
}

func TestAnswersAreTheirOwn(t *testing.T) {
	for _, kind := range []string{"", "\x00", "\x01", "\x02", "\x03"} {
		s := laid(bootText, fileText, part(52, kind)+part(5, "a")+part(99, ""))
		one, _ := Get(s)
		old := slices.Clone(one.Options)
		other, _ := Get(s)
		for i := range one.Options {
			one.Options[i] = option(1, "changed")
		}
		_ = append(one.Options[:1], option(2, "changed too"))
		if !slices.Equal(other.Options, old) {
			t.Errorf("R4: %v has become %v", old, other.Options)
		}
		checkOptions(t, s, old...)
	}
	p, s := ordinary()
	put, _ := Put(p)
	p.Options[0] = api.Option{}
	if put != s {
		t.Errorf("R4: %q has become %q", s, put)
	}
}

// anyPacket is one that may be, by chance.
func anyPacket(r *rand.Rand) api.Packet {
	var p api.Packet
	for _, f := range fields() {
		*f.of(&p) = r.Intn(1 << (8 * f.size))
	}
	b := make([]byte, r.Intn(17))
	r.Read(b)
	p.Chaddr = string(b)
	for _, code := range r.Perm(254)[:r.Intn(12)] {
		b := make([]byte, []int{0, 1, 4, 20, 255, 300}[r.Intn(6)])
		r.Read(b)
		if code+1 != api.OptOverload {
			p.Options = append(p.Options, option(code+1, string(b)))
		}
	}
	return p
}

func TestWhatIsPutIsToldAgain(t *testing.T) {
	r := rand.New(rand.NewSource(7))
	longs := 0
	const rounds = 3000
	for range rounds {
		p := anyPacket(r)
		size := 1
		for _, o := range p.Options {
			size += len(o.Data) + 2*max(1, (len(o.Data)+254)/255)
		}
		if size > api.MaxPacket {
			longs++
			checkNoPut(t, p, true)
			continue
		}
		s, e := Put(p)
		if e != api.OK || len(s) != api.HeaderSize+size {
			t.Fatalf("P7.1: %.300q: %d bytes, %d", fmt.Sprint(p), len(s), e)
		}
		checkBoth(t, p, s)
		checkPlainly(t, s)
	}
	if longs == 0 || longs > rounds/2 {
		t.Errorf("%d of %d are too long", longs, rounds)
	}
}

// pieces is what stands in s as options, one by one; it tells too whether all of them are there, and may be.
func pieces(s string) ([]api.Option, bool) {
	var found []api.Option
	for s != "" && s[0] != 255 {
		if s[0] == 0 {
			s = s[1:]
			continue
		}
		if len(s) < 2 || len(s)-2 < int(s[1]) {
			return nil, false
		}
		found = append(found, option(int(s[0]), s[2:2+int(s[1])]))
		s = s[2+int(s[1]):]
	}
	_, is := merged(found)
	return found, is
}

// merged is these with one code's data as one; it tells too whether they may be then.
func merged(found []api.Option) ([]api.Option, bool) {
	var os []api.Option
	for _, o := range found {
		i := slices.IndexFunc(os, func(q api.Option) bool { return q.Code == o.Code })
		if i < 0 {
			os = append(os, o)
			continue
		}
		os[i].Data += o.Data
	}
	long := slices.ContainsFunc(os, func(o api.Option) bool { return len(o.Data) > 512 })
	return os, len(os) <= 32 && !long
}

// toldPlainly reads the chapter a second time, by places in the text.
func toldPlainly(s string) (api.Packet, bool) {
	if len(s) < 240 || s[2] > 16 || s[236:240] != cookie {
		return api.Packet{}, false
	}
	p := api.Packet{Chaddr: s[28 : 28+int(s[2])]}
	for _, f := range fields() {
		x := 0
		for _, b := range []byte(s[f.at : f.at+f.size]) {
			x = x*256 + int(b)
		}
		*f.of(&p) = x
	}
	all, is := pieces(s[240:])
	if !is {
		return api.Packet{}, false
	}
	kind := ""
	overloaded := func(o api.Option) bool { return o.Code == 52 }
	for _, o := range all {
		if overloaded(o) {
			kind += o.Data
		}
	}
	var places []string
	if kind == "\x01" || kind == "\x03" {
		places = append(places, s[108:236])
	}
	if kind == "\x02" || kind == "\x03" {
		places = append(places, s[44:108])
	}
	for _, place := range places {
		more, is := pieces(place)
		if !is {
			return api.Packet{}, false
		}
		all = append(all, more...)
	}
	if places != nil {
		all = slices.DeleteFunc(all, overloaded)
	}
	p.Options, is = merged(all)
	if !is {
		return api.Packet{}, false
	}
	return p, true
}

// checkPlainly holds Get against the second reading; it tells whether s was taken.
func checkPlainly(t *testing.T, s string) bool {
	t.Helper()
	want, is := toldPlainly(s)
	if is {
		checkGet(t, s, want)
	} else {
		checkNoGet(t, s)
	}
	return is
}

// anyOptions is a text of options by chance, at most so long.
func anyOptions(r *rand.Rand, most int) string {
	text := ""
	for range r.Intn(24) {
		b := make([]byte, []int{0, 0, 0, 1, 2, 9, 60, 255}[r.Intn(8)])
		r.Read(b)
		next := part(40+r.Intn(40), string(b)) + zeros(r.Intn(2)*r.Intn(3))
		if len(text)+len(next) <= most {
			text += next
		}
	}
	if len(text) < most {
		text += []string{"", "\xff"}[r.Intn(2)]
	}
	return text
}

func TestPacketsWithTurnedBytes(t *testing.T) {
	r := rand.New(rand.NewSource(77))
	took, rounds := 0, 0
	for range 6000 {
		head := make([]byte, 44)
		r.Read(head)
		head[2] = byte(r.Intn(17))
		kind := ""
		if r.Intn(4) > 0 {
			kind = part(52, inBytes(r.Intn(5), 1))
		}
		text := string(head) + padded(anyOptions(r, 64), 64) + padded(anyOptions(r, 128), 128) + cookie + kind + anyOptions(r, 2000)
		turned := []byte(text)
		turned[r.Intn(len(turned))] = byte(r.Intn(256))
		for _, s := range []string{text, string(turned), text[:r.Intn(len(text))]} {
			rounds++
			if checkPlainly(t, s) {
				took++
			}
		}
	}
	if took < rounds/5 || took > rounds*4/5 {
		t.Errorf("%d of %d are taken", took, rounds)
	}
}

func TestTextsOfAnyBytes(t *testing.T) {
	r := rand.New(rand.NewSource(777))
	for i := range 4000 {
		b := make([]byte, r.Intn(600))
		r.Read(b)
		if i%2 == 0 && len(b) >= 240 {
			b[2] = byte(r.Intn(18))
			copy(b[236:], cookie)
			copy(b[240:], "\x34\x01"+inBytes(r.Intn(5), 1))
		}
		checkPlainly(t, string(b))
	}
	for _, n := range []int{0, 1, 2, 3, 239, 240, 241, 1200, 1440, 1 << 16} {
		for _, fill := range []string{"\x00", "\x01", "\xff", "\x63", "\x34\x01\x03", cookie} {
			checkPlainly(t, strings.Repeat(fill, n))
			checkPlainly(t, laid("", "", "\x34\x01\x03"+strings.Repeat(fill, n)))
			checkPlainly(t, laid(strings.Repeat(fill, 64)[:64], strings.Repeat(fill, 128)[:128], "\x34\x01\x03"+strings.Repeat(fill, n)))
		}
	}
}

func TestLongTextsEnd(t *testing.T) {
	const n = 1 << 20
	for _, s := range []string{"\x00", "\x01", "\xff", "\x05\x00", "\x05\x01a", "\x34\x01\x03", "\x34\x00"} {
		text := laid(bootText, fileText, strings.Repeat(s, n/len(s)))
		p, e := Get(text)
		if e != api.OK && (e != api.ErrPacketForm || !same(p, api.Packet{})) {
			t.Errorf("R1: %q again and again: %d options, %d", s, len(p.Options), e)
		}
	}
}

func TestCallsAtOneTime(t *testing.T) {
	p, s := ordinary()
	overloaded := laid(bootText, fileText, "\x34\x01\x03")
	var all sync.WaitGroup
	for range 8 {
		all.Go(func() {
			for range 200 {
				checkBoth(t, p, s)
				checkOptions(t, overloaded, option(6, "f"), option(8, "FB"), option(7, "b"))
			}
		})
	}
	all.Wait()
}
