package ident

import (
	"fmt"
	"hash/fnv"
	"math"
	"math/rand"
	"regexp"
	"slices"
	"strings"
	"sync"
	"testing"
	"unsafe"

	"pinfold/api"
)

// shape is chapter 2's sentence of which names may be, written anew.
var shape = regexp.MustCompile(`\A([a-z0-9-]{1,8}(\.[a-z0-9-]{1,8}){0,7})?\z`)

func checkClient(t *testing.T, p api.Packet, want string) {
	t.Helper()
	if s, e := Client(p); s != want || e != api.OK {
		t.Errorf("P9.1: Client(%.300q): %q, %d; want %q", fmt.Sprint(p), s, e, want)
	}
}

func checkNoClient(t *testing.T, p api.Packet) {
	t.Helper()
	if s, e := Client(p); s != "" || e != api.ErrIdentForm {
		t.Errorf("P9.1: Client(%.300q): %q, %d; want %d and nothing beside", fmt.Sprint(p), s, e, api.ErrIdentForm)
	}
}

func checkDhcid(t *testing.T, client, name string, want string) {
	t.Helper()
	if s, e := Dhcid(client, name); s != want || e != api.OK {
		t.Errorf("P9.2: Dhcid(%q, %q): %q, %d; want %q", client, name, s, e, want)
	}
}

func checkNoDhcid(t *testing.T, client, name string) {
	t.Helper()
	if s, e := Dhcid(client, name); s != "" || e != api.ErrIdentForm {
		t.Errorf("P9.2: Dhcid(%.100q, %.100q): %q, %d; want %d and nothing beside", client, name, s, e, api.ErrIdentForm)
	}
}

// one is x as a byte.
func one(x int) string {
	return string([]byte{byte(x)})
}

// option is one of a code.
func option(code int, data string) api.Option {
	return api.Option{Code: code, Data: data}
}

// countedText has bytes that tell where they stand.
func countedText(n int) string {
	b := make([]byte, n)
	for i := range b {
		b[i] = byte(i*7 + i/256 + 1)
	}
	return string(b)
}

// with is a packet that may be with this Chaddr and these options: Op 1, Htype 6, no number like another.
func with(chaddr string, os ...api.Option) api.Packet {
	return api.Packet{
		Op: 1, Htype: 6, Hops: 3, Xid: 0x11121314, Secs: 0x2122, Flags: 0x8001,
		Ciaddr: 0x0a000005, Yiaddr: 0x0b010207, Siaddr: api.Server, Giaddr: 0xfffefdfc,
		Chaddr: chaddr, Options: os,
	}
}

// mac is an ordinary Chaddr.
const mac = "\x02\x00\x5e\x10\x20\x30"

// both are packets of either kind: with OptClient, and with Chaddr alone.
func both() []api.Packet {
	return []api.Packet{
		with(mac, option(api.OptType, "\x01"), option(api.OptClient, "c1")),
		with(mac, option(api.OptType, "\x01")),
		with("", option(api.OptClient, "c1")),
		with(mac),
	}
}

func TestOrdinaryClients(t *testing.T) {
	checkClient(t, with(mac, option(api.OptType, "\x01"), option(api.OptClient, "c1")), "c1")
	checkClient(t, with(mac, option(api.OptType, "\x01")), "\x06"+mac)
	checkClient(t, with(mac), "\x06"+mac)
	checkClient(t, api.Packet{Htype: 1, Chaddr: mac}, "\x01"+mac)
	checkClient(t, api.Packet{Chaddr: mac}, "\x00"+mac)
	checkClient(t, api.Packet{Options: []api.Option{option(api.OptClient, "\x01"+mac)}}, "\x01"+mac)
	checkNoClient(t, api.Packet{})
	checkNoClient(t, api.Packet{Options: []api.Option{}})
	if api.OptClient != 61 || api.MaxClient != 16 {
		t.Errorf("OptClient %d, MaxClient %d", api.OptClient, api.MaxClient)
	}
}

func TestOptClientOfAnySize(t *testing.T) {
	other := []api.Option{option(api.OptType, "\x01"), option(60, "c60"), option(62, "c62"), option(1, countedText(16))}
	for n := range 40 {
		for _, data := range []string{countedText(n), strings.Repeat("\x00", n), strings.Repeat("\xff", n)} {
			o := option(api.OptClient, data)
			for _, os := range [][]api.Option{{o}, append([]api.Option{o}, other...), append(slices.Clone(other), o), {other[0], o, other[1]}} {
				for _, chaddr := range []string{"", "a", mac, countedText(15), countedText(16)} {
					if 1 <= n && n <= 16 {
						checkClient(t, with(chaddr, os...), data)
					} else {
						// Chaddr, which would do by itself, is not asked then.
						checkNoClient(t, with(chaddr, os...))
					}
				}
			}
		}
	}
	for _, n := range []int{255, 256, 257, 256 + 16, 511, 512, 513, 1 << 16} {
		checkNoClient(t, with("", option(api.OptClient, countedText(n))))
		checkNoClient(t, with(mac, option(api.OptClient, countedText(n))))
	}
}

func TestOptClientOfAnyBytes(t *testing.T) {
	for b := range 256 {
		for _, data := range []string{one(b), one(b) + "c", "c" + one(b), "c" + one(b) + "d", countedText(15) + one(b), strings.Repeat(one(b), 16)} {
			checkClient(t, with(mac, option(api.OptClient, data)), data)
			checkClient(t, with("", option(api.OptClient, data)), data)
		}
	}
}

func TestOtherOptionsTellNoClient(t *testing.T) {
	for code := 1; code <= 254; code++ {
		if code == api.OptClient {
			continue
		}
		checkClient(t, with(mac, option(code, "c1")), "\x06"+mac)
		checkNoClient(t, with("", option(code, "c1")))
	}
}

func TestChaddrOfAnySize(t *testing.T) {
	for n := range 40 {
		for _, chaddr := range []string{countedText(n), strings.Repeat("\x00", n), strings.Repeat("\xff", n)} {
			for _, htype := range []int{0, 1, 6, 127, 128, 254, 255} {
				for _, os := range [][]api.Option{nil, {}, {option(api.OptType, "\x01"), option(60, "c60")}} {
					p := with(chaddr, os...)
					p.Htype = htype
					if 1 <= n && n <= 15 {
						checkClient(t, p, one(htype)+chaddr)
					} else {
						checkNoClient(t, p)
					}
				}
			}
		}
	}
	for _, n := range []int{255, 256, 257, 256 + 6, 1 << 16} {
		checkNoClient(t, with(countedText(n)))
	}
}

func TestHtypeAndChaddrOfAnyBytes(t *testing.T) {
	for htype := range 256 {
		for _, chaddr := range []string{"a", "\x00", "\xff", mac, countedText(15)} {
			checkClient(t, api.Packet{Htype: htype, Chaddr: chaddr}, one(htype)+chaddr)
			checkClient(t, api.Packet{Htype: htype, Chaddr: chaddr, Options: []api.Option{option(api.OptClient, "c1")}}, "c1")
		}
		for _, chaddr := range []string{one(htype), one(htype) + "c", "c" + one(htype), countedText(14) + one(htype)} {
			checkClient(t, api.Packet{Htype: 1, Chaddr: chaddr}, "\x01"+chaddr)
		}
	}
}

func TestOtherNumbersTellNoClient(t *testing.T) {
	for _, p := range both() {
		want, e := Client(p)
		if e != api.OK {
			t.Fatalf("P9.1: Client(%v): %d", p, e)
		}
		for _, f := range fields() {
			if f.name == "Htype" {
				continue
			}
			for _, x := range []int{0, 1, 61, f.most} {
				q := p
				*f.of(&q) = x
				checkClient(t, q, want)
			}
		}
	}
}

// field is one of a packet's numbers, and the greatest one it may be.
type field struct {
	name string
	most int
	of   func(p *api.Packet) *int
}

func fields() []field {
	return []field{
		{"Op", 255, func(p *api.Packet) *int { return &p.Op }},
		{"Htype", 255, func(p *api.Packet) *int { return &p.Htype }},
		{"Hops", 255, func(p *api.Packet) *int { return &p.Hops }},
		{"Xid", 4294967295, func(p *api.Packet) *int { return &p.Xid }},
		{"Secs", 65535, func(p *api.Packet) *int { return &p.Secs }},
		{"Flags", 65535, func(p *api.Packet) *int { return &p.Flags }},
		{"Ciaddr", 4294967295, func(p *api.Packet) *int { return &p.Ciaddr }},
		{"Yiaddr", 4294967295, func(p *api.Packet) *int { return &p.Yiaddr }},
		{"Siaddr", 4294967295, func(p *api.Packet) *int { return &p.Siaddr }},
		{"Giaddr", 4294967295, func(p *api.Packet) *int { return &p.Giaddr }},
	}
}

func TestNumbersThatMayNotBe(t *testing.T) {
	for _, f := range fields() {
		for _, x := range []int{-1, -2, -255, -256, f.most + 1, f.most + 2, 2*f.most + 1, 1 << 40, -1 << 32, math.MinInt, math.MinInt + 1, math.MaxInt} {
			for _, p := range both() {
				*f.of(&p) = x
				checkNoClient(t, p)
			}
		}
	}
}

func TestChaddrThatMayNotBe(t *testing.T) {
	for _, n := range []int{17, 18, 32, 255, 256, 257, 256 + 16, 1 << 20} {
		for _, p := range both() {
			p.Chaddr = countedText(n)
			checkNoClient(t, p)
		}
	}
}

func TestOptionsThatMayNotBe(t *testing.T) {
	c := option(api.OptClient, "c1")
	for _, code := range []int{math.MinInt, -61, -1, 0, 255, 256, 256 + 61, 1<<32 + 61, math.MaxInt} {
		checkNoClient(t, with(mac, option(code, "c1")))
		checkNoClient(t, with(mac, c, option(code, "")))
		checkNoClient(t, with(mac, option(code, ""), c))
	}
	checkNoClient(t, with(mac, c, c))
	checkNoClient(t, with(mac, c, option(api.OptClient, "")))
	checkNoClient(t, with(mac, option(api.OptClient, ""), c))
	checkNoClient(t, with(mac, c, option(5, ""), option(api.OptClient, "c2")))
	checkNoClient(t, with(mac, c, option(5, "a"), option(5, "b")))
	checkNoClient(t, with(mac, option(5, "a"), option(5, "b")))
	checkNoClient(t, with(mac, option(5, countedText(513))))
	checkNoClient(t, with(mac, c, option(5, countedText(513))))
	checkClient(t, with(mac, c, option(5, countedText(512))), "c1")
	checkClient(t, with(mac, option(5, countedText(512))), "\x06"+mac)
	for n := range api.MaxOptions + 3 {
		var many []api.Option
		for code := 100; code < 100+n; code++ {
			many = append(many, option(code, "x"))
		}
		last := append(slices.Clone(many), c)
		first := append([]api.Option{c}, many...)
		if n <= api.MaxOptions {
			checkClient(t, with(mac, many...), "\x06"+mac)
		} else {
			checkNoClient(t, with(mac, many...))
		}
		if n < api.MaxOptions {
			checkClient(t, with(mac, last...), "c1")
			checkClient(t, with(mac, first...), "c1")
		} else {
			checkNoClient(t, with(mac, last...))
			checkNoClient(t, with(mac, first...))
		}
	}
	checkNoClient(t, with(mac, make([]api.Option, 1<<20)...))
}

func TestOptionsThatAreTooLongToBePut(t *testing.T) {
	// They may be all the same.
	long := []api.Option{option(1, countedText(512)), option(2, countedText(512)), option(3, countedText(512))}
	checkClient(t, with(mac, long...), "\x06"+mac)
	checkClient(t, with(mac, append(slices.Clone(long), option(api.OptClient, "c1"))...), "c1")
	checkNoClient(t, with(mac, append(slices.Clone(long), option(api.OptClient, ""))...))
	checkNoClient(t, with("", long...))
}

// fourBytes is a sum as it is written.
func fourBytes(sum uint32) string {
	return one(int(sum>>24)) + one(int(sum>>16)) + one(int(sum>>8)) + one(int(sum))
}

func TestKnownSums(t *testing.T) {
	for _, c := range []struct {
		client, name string
		sum          uint32
	}{
		{"a", "", 0x2b24d044},
		{"foobar", "", 0x0c1c9eb8},
		{"chongo was here!", "", 0xda993a47},
		{"c1", "host-1.lan", 0x31333022},
		{"\x01\x02\x00\x5e\x10\x20\x30", "host-1.lan", 0x9001cc11},
		{"0123456789abcdef", "a.b.c.d.e.f.g.h", 0x09ccc003},
		{"\xff", "lan", 0x207e9a65},
		{"\x00", "", 0x117697cd},
		{"\x00\x00\x00", "", 0x4b95f515},
		{"ab", "c", 0xef850b27},
		{"a", "bc", 0x609747a3},
		// Bytes 0 in each of the four places.
		{"c1189", "host.lan", 0x0089f6d2},
		{"c1564", "host.lan", 0x00dfd8c9},
		{"c1410", "host.lan", 0x5e00e229},
		{"c62371", "host.lan", 0x00001f96},
		{"c6976915", "host.lan", 0x000000ae},
		{"c3234914805", "host.lan", 0},
	} {
		checkDhcid(t, c.client, c.name, "\x00\x01\x01"+fourBytes(c.sum))
	}
	checkDhcid(t, "foobar", "", "\x00\x01\x01\x0c\x1c\x9e\xb8")
}

// summed is what is to be told, by the library's own sum.
func summed(client, name string) string {
	sum := fnv.New32a()
	sum.Write([]byte(client + "\x00" + name))
	return "\x00\x01\x01" + string(sum.Sum(nil))
}

// samples are names that may be; wrongNames may not.
var (
	samples    = []string{"", "a", "-", "0", "lan", "host-1", "12345678", "a.b", "host-1.lan", "zyxwvuts.rqponmlk", "10.0.0.1", "a.b.c.d.e.f.g.h", named(8, 8)}
	wrongNames = []string{
		".", "..", "a.", ".a", "a..b", "a.b.", "A", "Host-1.lan", "host-1.laN", "a_b", "a b", "\x00", "a\x00", "\x00a", "\xff", "é", "\n",
		"123456789", "a.123456789", "123456789.a", "a.b.c.d.e.f.g.h.i", "a.b.c.d.e.f.g.h.", named(9, 1), named(1, 9), named(9, 8), named(8, 9),
		strings.Repeat("a", 1000), strings.Repeat("a.", 1000),
	}
)

// named is a name of n labels of k letters each.
func named(n, k int) string {
	return strings.TrimSuffix(strings.Repeat(strings.Repeat("a", k)+".", n), ".")
}

func TestClientOfDhcidOfAnySize(t *testing.T) {
	for n := range 40 {
		for _, client := range []string{countedText(n), strings.Repeat("\x00", n), strings.Repeat("\xff", n), strings.Repeat("a", n)} {
			for _, name := range samples {
				if 1 <= n && n <= 16 {
					checkDhcid(t, client, name, summed(client, name))
				} else {
					checkNoDhcid(t, client, name)
				}
			}
			for _, name := range wrongNames {
				checkNoDhcid(t, client, name)
			}
		}
	}
	for _, n := range []int{255, 256, 257, 256 + 16, 1 << 16} {
		checkNoDhcid(t, countedText(n), "host-1.lan")
	}
}

func TestClientOfDhcidOfAnyBytes(t *testing.T) {
	for b := range 256 {
		for _, client := range []string{one(b), one(b) + "c", "c" + one(b), "c" + one(b) + "d", countedText(15) + one(b), strings.Repeat(one(b), 16)} {
			for _, name := range []string{"", "lan", "host-1.lan"} {
				checkDhcid(t, client, name, summed(client, name))
			}
		}
	}
}

func TestNamesOfDhcid(t *testing.T) {
	for n := 1; n <= 2*api.MaxLabels; n++ {
		for k := 1; k <= 2*api.MaxLabel; k++ {
			if name := named(n, k); n <= api.MaxLabels && k <= api.MaxLabel {
				checkDhcid(t, "c1", name, summed("c1", name))
			} else {
				checkNoDhcid(t, "c1", name)
			}
		}
	}
	for b := range 256 {
		for _, name := range []string{one(b), "a" + one(b), one(b) + "a", "a" + one(b) + "c", "a.b" + one(b) + "c.d"} {
			if shape.MatchString(name) {
				checkDhcid(t, "c1", name, summed("c1", name))
			} else {
				checkNoDhcid(t, "c1", name)
			}
		}
	}
}

func TestDhcidsThatAreToldApart(t *testing.T) {
	for _, row := range [][][2]string{
		{{"a", "lan"}, {"b", "lan"}, {"A", "lan"}, {"\x00", "lan"}, {"\x01", "lan"}, {"\x80", "lan"}, {"\xff", "lan"}},
		{{"c1", "a.lan"}, {"c1", "b.lan"}, {"c1", "a.lam"}, {"c1", "a-lan"}, {"c1", "alan"}, {"c1", "lan"}, {"c1", ""}},
		// One row of bytes, but for where the byte 0 between client and name stands.
		{{"abc", ""}, {"ab", "c"}, {"a", "bc"}},
		{{"a-host", "lan"}, {"a-", "hostlan"}, {"a-hostlan", ""}},
		{{"a", ""}, {"a\x00", ""}, {"a\x00\x00", ""}, {"\x00a", ""}, {"\x00", "a"}, {"\x00\x00", "a"}},
		{{"a\x00b", "c"}, {"a\x00bc", ""}, {"a", "bc"}, {"a\x00", "bc"}},
		{{"c1", "host"}, {"host", "c1"}, {"1c", "host"}, {"c1", "tsoh"}},
	} {
		seen := map[string][2]string{}
		for _, c := range row {
			s, e := Dhcid(c[0], c[1])
			if other, is := seen[s]; is || e != api.OK {
				t.Errorf("P9.2: Dhcid of %q, as of %q: %q, %d", c, other, s, e)
			}
			seen[s] = c
			checkDhcid(t, c[0], c[1], summed(c[0], c[1]))
		}
	}
}

func TestEachTurnedBitIsToldApart(t *testing.T) {
	for _, client := range []string{"a", "c1", "\x01" + mac, countedText(16)} {
		for _, name := range []string{"", "host-1.lan"} {
			whole, _ := Dhcid(client, name)
			for i := range 8 * len(client) {
				turned := []byte(client)
				turned[i/8] ^= 1 << (i % 8)
				if s, e := Dhcid(string(turned), name); s == whole || s != summed(string(turned), name) || e != api.OK {
					t.Errorf("P9.2: Dhcid(%q, %q): %q, %d; that of %q is %q", turned, name, s, e, client, whole)
				}
			}
		}
	}
}

// toldPlainly reads the chapter's first promise a second time.
func toldPlainly(p api.Packet) (string, bool) {
	for _, f := range fields() {
		if x := *f.of(&p); x < 0 || x > f.most {
			return "", false
		}
	}
	if len(p.Chaddr) > 16 || len(p.Options) > 32 {
		return "", false
	}
	client, may := one(p.Htype)+p.Chaddr, len(p.Chaddr) > 0
	for i, o := range p.Options {
		for _, other := range p.Options[:i] {
			if other.Code == o.Code {
				return "", false
			}
		}
		if o.Code < 1 || o.Code > 254 || len(o.Data) > 512 {
			return "", false
		}
		if o.Code == 61 {
			client, may = o.Data, len(o.Data) > 0
		}
	}
	if !may || len(client) > 16 {
		return "", false
	}
	return client, true
}

// anyPacket is one by chance; mostly it may be.
func anyPacket(r *rand.Rand) api.Packet {
	var p api.Packet
	for _, f := range fields() {
		*f.of(&p) = r.Intn(f.most + 1)
		if r.Intn(100) == 0 {
			*f.of(&p) = []int{-1, f.most, f.most + 1, r.Int(), -r.Int()}[r.Intn(5)]
		}
	}
	p.Chaddr = anyBytes(r, r.Intn(19))
	for range r.Intn(5) {
		code := 1 + r.Intn(254)
		switch r.Intn(30) {
		case 0:
			code = []int{-61, 0, 255, 256 + 61, r.Int()}[r.Intn(5)]
		case 1, 2, 3, 4, 5, 6, 7:
			code = api.OptClient
		}
		n := r.Intn(20)
		if r.Intn(10) == 0 {
			n = []int{255, 256, 511, 512, 513}[r.Intn(5)]
		}
		p.Options = append(p.Options, option(code, anyBytes(r, n)))
	}
	if r.Intn(200) == 0 {
		p.Options = append(p.Options, make([]api.Option, r.Intn(100))...)
	}
	return p
}

// anyBytes are n of them by chance.
func anyBytes(r *rand.Rand, n int) string {
	b := make([]byte, n)
	r.Read(b)
	return string(b)
}

func TestAnyPackets(t *testing.T) {
	r := rand.New(rand.NewSource(9))
	const rounds = 50000
	took, byOption := 0, 0
	for range rounds {
		p := anyPacket(r)
		want, is := toldPlainly(p)
		if !is {
			checkNoClient(t, p)
			continue
		}
		took++
		if want != one(p.Htype)+p.Chaddr {
			byOption++
		}
		checkClient(t, p, want)
		// What is told is a client for the other call.
		checkDhcid(t, want, "host-1.lan", summed(want, "host-1.lan"))
	}
	if took < rounds/4 || took > rounds*3/4 || byOption < rounds/20 || byOption > took-rounds/20 {
		t.Errorf("%d of %d are taken, %d by their option", took, rounds, byOption)
	}
}

func TestAnyClientsAndNames(t *testing.T) {
	r := rand.New(rand.NewSource(99))
	const rounds = 50000
	took := 0
	for range rounds {
		client, name := anyBytes(r, r.Intn(20)), []byte(samples[r.Intn(len(samples))])
		if len(name) > 0 && r.Intn(2) == 0 {
			name[r.Intn(len(name))] = "az09-.A_\x00\xff"[r.Intn(10)]
		}
		if len(client) < 1 || len(client) > 16 || !shape.Match(name) {
			checkNoDhcid(t, client, string(name))
			continue
		}
		took++
		checkDhcid(t, client, string(name), summed(client, string(name)))
	}
	for range rounds {
		client, name := anyBytes(r, r.Intn(20)), anyBytes(r, r.Intn(80))
		if !shape.MatchString(name) {
			checkNoDhcid(t, client, name)
		}
	}
	if took < rounds/4 || took > rounds*3/4 {
		t.Errorf("%d of %d are taken", took, rounds)
	}
}

func TestWhatIsHandedInIsNotChanged(t *testing.T) {
	c := option(api.OptClient, "c1")
	for _, os := range [][]api.Option{{}, {c}, {option(5, ""), c}, {c, c}, {option(0, "")}, {option(api.OptClient, countedText(300))}, {option(5, countedText(512)), option(6, countedText(513))}} {
		room := append(slices.Clone(os), option(api.OptClient, "room"), option(78, ""))
		old := slices.Clone(room)
		Client(with(mac, room[:len(os)]...))
		Client(with("", room[:len(os)]...))
		if !slices.Equal(room, old) {
			t.Errorf("R4: %v has become %v", old, room)
		}
	}
	// What is behind a list's end is not read either.
	room := []api.Option{option(5, ""), c}
	checkClient(t, with(mac, room[:1]...), "\x06"+mac)
}

// meet: do two texts share memory.
func meet(a, b string) bool {
	from, to := uintptr(unsafe.Pointer(unsafe.StringData(a))), uintptr(unsafe.Pointer(unsafe.StringData(b)))
	return from < to+uintptr(len(b)) && to < from+uintptr(len(a))
}

func TestAnswersAreTheirOwn(t *testing.T) {
	for n := 1; n <= 16; n++ {
		data := countedText(n)
		p := with(mac, option(api.OptClient, data))
		first, _ := Client(p)
		second, _ := Client(p)
		if meet(first, data) || meet(second, data) || meet(first, second) || data != countedText(n) {
			t.Errorf("R4: Client(%v) shares memory, or has changed it", p)
		}
		chaddr := countedText(min(n, 15))
		p = with(chaddr)
		first, _ = Client(p)
		second, _ = Client(p)
		if meet(first, chaddr) || meet(second, chaddr) || meet(first, second) || chaddr != countedText(min(n, 15)) {
			t.Errorf("R4: Client(%v) shares memory, or has changed it", p)
		}
		name := strings.Clone("host-1.lan")
		first, _ = Dhcid(data, name)
		second, _ = Dhcid(data, name)
		if meet(first, second) || meet(first, data) || meet(first, name) || data != countedText(n) || name != "host-1.lan" {
			t.Errorf("R4: Dhcid(%q, %q) shares memory, or has changed it", data, name)
		}
	}
}

func TestLongTextsEnd(t *testing.T) {
	const n = 1 << 20
	for _, s := range []string{"\x00", "a", "a.", ".", "\xff", "12345678."} {
		long := strings.Repeat(s, n)
		checkNoDhcid(t, long, "host-1.lan")
		checkNoDhcid(t, "c1", long)
		checkNoDhcid(t, long, long)
		for _, p := range []api.Packet{with(long), with(mac, option(api.OptClient, long)), with(long, option(api.OptClient, "c1")), with(mac, option(5, long))} {
			if client, e := Client(p); client != "" || e != api.ErrIdentForm {
				t.Errorf("R1: %q again and again: %d bytes, %d", s, len(client), e)
			}
		}
	}
}

func TestCallsAtOneTime(t *testing.T) {
	ps := both()
	var all sync.WaitGroup
	for range 8 {
		all.Go(func() {
			for range 200 {
				checkClient(t, ps[0], "c1")
				checkClient(t, ps[1], "\x06"+mac)
				checkNoClient(t, with(""))
				checkDhcid(t, "foobar", "", "\x00\x01\x01\x0c\x1c\x9e\xb8")
				checkNoDhcid(t, "foobar", "A")
			}
		})
	}
	all.Wait()
}
