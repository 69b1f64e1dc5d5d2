package conf

import (
	"fmt"
	"math"
	"math/rand"
	"reflect"
	"regexp"
	"slices"
	"strings"
	"sync"
	"testing"
	"unsafe"

	"pinfold/api"
)

const net = 10 << 24

// shape is chapter 2's sentence of which names may be, written anew.
var shape = regexp.MustCompile(`\A([a-z0-9-]{1,8}(\.[a-z0-9-]{1,8}){0,7})?\z`)

// ordinary is a configuration that may be; each time all of it is new.
func ordinary() api.Config {
	return api.Config{
		First:    10,
		Last:     15,
		Excluded: []int{12, 15},
		Reserved: []api.Reserve{{Client: "printer", Host: 14}, {Client: "\x01\x02\x00\x5e\x10\x20\x30", Host: 11}},
		Time:     3600,
		Zone:     "lan.net",
		Static: []api.RR{
			{Name: "www.lan.net", Type: api.TypeA, Ttl: 60, Addr: net + 7},
			{Name: "ftp.lan.net", Type: api.TypeCname, Ttl: 60, Target: "www.lan.net"},
			{Name: "www.lan.net", Type: api.TypeTxt, Text: "hi"},
		},
	}
}

// bare is the least configuration that may be.
func bare() api.Config {
	return api.Config{First: 100, Last: 107, Time: 1, Zone: "lan"}
}

// changed is a copy of c with one thing turned.
func changed(c api.Config, turn func(c *api.Config)) api.Config {
	c.Excluded, c.Reserved, c.Static = slices.Clone(c.Excluded), slices.Clone(c.Reserved), slices.Clone(c.Static)
	turn(&c)
	return c
}

// short tells a configuration, but not all of a long one.
func short(c api.Config) string {
	return fmt.Sprintf("%.400s", fmt.Sprintf("%+.100q", fmt.Sprint(c)))
}

func checkMay(t *testing.T, c api.Config) {
	t.Helper()
	if !May(c) {
		t.Errorf("P11.1: %s may be", short(c))
		return
	}
	checkAsked(t, c)
}

// checkAsked asks a configuration that may be after all that it tells.
func checkAsked(t *testing.T, c api.Config) {
	t.Helper()
	for _, host := range hostsBeside(c) {
		usable := c.First <= host && host <= c.Last
		for _, x := range c.Excluded {
			usable = usable && x != host
		}
		if got := Usable(c, host); got != usable {
			t.Errorf("P11.1: Usable(%s, %d): %v", short(c), host, got)
		}
		want, is := "", false
		for _, r := range c.Reserved {
			if r.Host == host {
				want, is = r.Client, true
			}
		}
		if got, has := Owner(c, host); got != want || has != is {
			t.Errorf("P11.1: Owner(%s, %d): %q, %v; want %q, %v", short(c), host, got, has, want, is)
		}
	}
	for _, client := range clientsBeside(c) {
		want, is := 0, false
		for _, r := range c.Reserved {
			if r.Client == client {
				want, is = r.Host, true
			}
		}
		if got, has := Reserved(c, client); got != want || has != is {
			t.Errorf("P11.1: Reserved(%s, %.50q): %d, %v; want %d, %v", short(c), client, got, has, want, is)
		}
	}
}

func checkNoMay(t *testing.T, c api.Config) {
	t.Helper()
	if May(c) {
		t.Errorf("P11.1: %s may not be", short(c))
	}
	for _, host := range hostsBeside(c) {
		if Usable(c, host) {
			t.Errorf("P11.1: Usable(%s, %d), which may not be", short(c), host)
		}
		if client, is := Owner(c, host); client != "" || is {
			t.Errorf("P11.1: Owner(%s, %d): %q, %v; want none, as it may not be", short(c), host, client, is)
		}
	}
	for _, client := range clientsBeside(c) {
		if host, is := Reserved(c, client); host != 0 || is {
			t.Errorf("P11.1: Reserved(%s, %.50q): %d, %v; want none, as it may not be", short(c), client, host, is)
		}
	}
}

// hostsBeside are the hosts that a configuration names, and those around them.
func hostsBeside(c api.Config) []int {
	hosts := []int{0, 1, 2, 254, 255, 256, -1, 256 + c.First, net + c.First, math.MinInt, math.MaxInt, 1<<32 + c.First}
	for d := -2; d < api.MaxLeases+2; d++ {
		hosts = append(hosts, c.First+d)
	}
	for _, r := range c.Reserved[:min(len(c.Reserved), 9)] {
		hosts = append(hosts, r.Host)
	}
	return append(append(hosts, c.Last-1, c.Last, c.Last+1), c.Excluded[:min(len(c.Excluded), 9)]...)
}

// clientsBeside are the clients that a configuration names, and those around them.
func clientsBeside(c api.Config) []string {
	clients := []string{"", "a", "\x00", "A", countedText(16), countedText(17)}
	for _, r := range c.Reserved[:min(len(c.Reserved), 9)] {
		clients = append(clients, r.Client, r.Client+"\x00", "\x00"+r.Client, strings.ToUpper(r.Client), r.Client[:len(r.Client)/2])
	}
	return clients
}

// countedText has bytes that tell where they stand.
func countedText(n int) string {
	b := make([]byte, n)
	for i := range b {
		b[i] = byte(i*7 + i/256 + 1)
	}
	return string(b)
}

// others are numbers that no host is, nor a time.
var others = []int{
	0, -1, -2, -10, -254, -256, -1 << 31, -1 << 32, -1 << 40, -1 << 62, math.MinInt, math.MinInt + 1, math.MinInt + 10,
	1 << 31, 1<<31 + 10, 1 << 32, 1<<32 + 10, 1 << 40, 1 << 62, math.MaxInt, math.MaxInt - 1, math.MaxInt - 10,
}

func TestOrdinaryConfiguration(t *testing.T) {
	c := ordinary()
	checkMay(t, c)
	for host := -300; host < 600; host++ {
		want := host == 10 || host == 11 || host == 13 || host == 14
		if got := Usable(c, host); got != want {
			t.Errorf("P11.1: Usable of %d: %v", host, got)
		}
	}
	if client, is := Owner(c, 14); client != "printer" || !is {
		t.Errorf("P11.1: Owner of 14: %q, %v", client, is)
	}
	if client, is := Owner(c, 13); client != "" || is {
		t.Errorf("P11.1: Owner of 13: %q, %v", client, is)
	}
	if host, is := Reserved(c, "printer"); host != 14 || !is {
		t.Errorf("P11.1: Reserved for printer: %d, %v", host, is)
	}
	if host, is := Reserved(c, "Printer"); host != 0 || is {
		t.Errorf("P11.1: Reserved for Printer: %d, %v", host, is)
	}
	checkMay(t, bare())
	checkNoMay(t, api.Config{})
	if api.MaxLeases != 8 || api.MaxReserved != 4 || api.MaxStatic != 8 || api.MaxClient != 16 || api.MaxTime != 1048576 || api.MaxLabels != 8 || api.Net != net || api.ErrConfForm != 1100 {
		t.Error("the numbers of DOC.md are other ones")
	}
}

// between is bare with other hosts.
func between(first, last int) api.Config {
	return changed(bare(), func(c *api.Config) { c.First, c.Last = first, last })
}

func TestFirstAndLast(t *testing.T) {
	for first := -20; first < 280; first++ {
		for last := first - 12; last < first+24; last++ {
			if 2 <= first && first <= last && last <= 254 && last <= first+7 {
				checkMay(t, between(first, last))
			} else {
				checkNoMay(t, between(first, last))
			}
		}
	}
	for _, x := range []int{0, 1, 255} {
		for y := range 260 {
			checkNoMay(t, between(x, y))
			checkNoMay(t, between(y, x))
		}
	}
	checkMay(t, between(2, 2))
	checkMay(t, between(2, 9))
	checkMay(t, between(254, 254))
	checkMay(t, between(247, 254))
	checkNoMay(t, between(2, 10))
	checkNoMay(t, between(246, 254))
	checkNoMay(t, between(2, 254))
}

func TestFirstAndLastOfOtherNumbers(t *testing.T) {
	for _, x := range others {
		for _, y := range append([]int{1, 2, 3, 10, 17, 254, 255, x - 8, x - 7, x - 1, x + 1, x + 7, x + 8}, others...) {
			checkNoMay(t, between(x, y))
			checkNoMay(t, between(y, x))
		}
	}
}

// excluding is bare, whose hosts are from 100 to 107, with these Excluded.
func excluding(hosts ...int) api.Config {
	return changed(bare(), func(c *api.Config) { c.Excluded = hosts })
}

func TestExcluded(t *testing.T) {
	checkMay(t, excluding())
	checkMay(t, excluding([]int{}...))
	for host := 90; host < 120; host++ {
		if 100 <= host && host <= 107 {
			checkMay(t, excluding(host))
		} else {
			checkNoMay(t, excluding(host))
			checkNoMay(t, excluding(103, host))
			checkNoMay(t, excluding(host, 103))
		}
	}
	for _, x := range append([]int{1, 2, 254, 255, 256, 256 + 100, net + 100, 1<<32 + 100}, others...) {
		checkNoMay(t, excluding(x))
		checkNoMay(t, excluding(101, x, 102))
	}
	// As many as may be, in any row: no host is left that could be lent out.
	all := []int{107, 100, 103, 102, 106, 101, 105, 104}
	for n := range all {
		checkMay(t, excluding(all[:n]...))
		for i := range n {
			checkNoMay(t, excluding(append(slices.Clone(all[:n]), all[i])...))
			checkNoMay(t, excluding(append([]int{all[i]}, all[:n]...)...))
		}
	}
	checkMay(t, excluding(all...))
	for _, x := range append([]int{99, 108}, all...) {
		checkNoMay(t, excluding(append(slices.Clone(all), x)...))
	}
	c := changed(between(5, 5), func(c *api.Config) { c.Excluded = []int{5} })
	checkMay(t, c)
	checkNoMay(t, changed(c, func(c *api.Config) { c.Excluded = []int{5, 5} }))
}

// reserving is bare, whose hosts are from 100 to 107, with these Reserved.
func reserving(rs ...api.Reserve) api.Config {
	return changed(bare(), func(c *api.Config) { c.Reserved = rs })
}

func TestReservedHosts(t *testing.T) {
	checkMay(t, reserving())
	checkMay(t, reserving([]api.Reserve{}...))
	b := api.Reserve{Client: "b", Host: 103}
	for host := 90; host < 120; host++ {
		a := api.Reserve{Client: "a", Host: host}
		switch {
		case host == 103:
			checkMay(t, reserving(a))
			checkNoMay(t, reserving(a, b))
			checkNoMay(t, reserving(b, a))
		case 100 <= host && host <= 107:
			checkMay(t, reserving(a))
			checkMay(t, reserving(a, b))
			checkMay(t, reserving(b, a))
		default:
			checkNoMay(t, reserving(a))
			checkNoMay(t, reserving(a, b))
			checkNoMay(t, reserving(b, a))
		}
	}
	for _, x := range append([]int{1, 2, 254, 255, 256, 256 + 100, net + 100, 1<<32 + 100}, others...) {
		checkNoMay(t, reserving(api.Reserve{Client: "a", Host: x}))
		checkNoMay(t, reserving(b, api.Reserve{Client: "a", Host: x}))
	}
	all := []api.Reserve{{Client: "d", Host: 107}, {Client: "a", Host: 100}, {Client: "c", Host: 105}, {Client: "b", Host: 101}, {Client: "e", Host: 106}}
	for n := range all {
		checkMay(t, reserving(all[:n]...))
		for _, r := range all[:n] {
			checkNoMay(t, reserving(append(slices.Clone(all[:n]), r)...))
			checkNoMay(t, reserving(append(slices.Clone(all[:n]), api.Reserve{Client: "f", Host: r.Host})...))
			checkNoMay(t, reserving(append(slices.Clone(all[:n]), api.Reserve{Client: r.Client, Host: 104})...))
		}
	}
	checkNoMay(t, reserving(all...))
}

func TestReservedClients(t *testing.T) {
	for n := range 40 {
		for _, client := range []string{countedText(n), strings.Repeat("\x00", n), strings.Repeat("\xff", n), strings.Repeat("é", n/2) + strings.Repeat("e", n%2)} {
			c := reserving(api.Reserve{Client: client, Host: 103})
			beside := reserving(api.Reserve{Client: "beside", Host: 104}, api.Reserve{Client: client, Host: 103})
			if 1 <= n && n <= 16 {
				checkMay(t, c)
				checkMay(t, beside)
			} else {
				checkNoMay(t, c)
				checkNoMay(t, beside)
			}
		}
	}
	for b := range 256 {
		one := string([]byte{byte(b)})
		for _, client := range []string{one, one + "c", "c" + one, "c" + one + "d", countedText(15) + one, strings.Repeat(one, 16)} {
			checkMay(t, reserving(api.Reserve{Client: client, Host: 100}))
			checkNoMay(t, reserving(api.Reserve{Client: client, Host: 100}, api.Reserve{Client: client, Host: 101}))
			// A bit is enough to make another client of it.
			last := len(client) - 1
			checkMay(t, reserving(api.Reserve{Client: client, Host: 100}, api.Reserve{Client: client[:last] + string([]byte{client[last] ^ 1}), Host: 101}))
		}
	}
	for _, n := range []int{255, 256, 257, 256 + 16, 1 << 16} {
		checkNoMay(t, reserving(api.Reserve{Client: countedText(n), Host: 103}))
	}
}

func TestAHostMayBeExcludedAndReserved(t *testing.T) {
	c := changed(bare(), func(c *api.Config) {
		c.Excluded = []int{100, 101, 102, 103, 104, 105, 106, 107}
		c.Reserved = []api.Reserve{{Client: "a", Host: 100}, {Client: "b", Host: 107}, {Client: "c", Host: 101}, {Client: "d", Host: 106}}
	})
	checkMay(t, c)
	if client, is := Owner(c, 107); client != "b" || !is || Usable(c, 107) {
		t.Errorf("P11.1: Owner of 107: %q, %v", client, is)
	}
	if host, is := Reserved(c, "d"); host != 106 || !is {
		t.Errorf("P11.1: Reserved for d: %d, %v", host, is)
	}
}

// lasting is bare with another Time.
func lasting(time int) api.Config {
	return changed(bare(), func(c *api.Config) { c.Time = time })
}

func TestTime(t *testing.T) {
	for _, time := range []int{1, 2, 8, 60, 64, 3600, 1 << 16, 1048575, 1048576} {
		checkMay(t, lasting(time))
	}
	for _, time := range append([]int{1048577, 1048578, 1 << 21, api.MaxNow, 1<<32 + 1}, others...) {
		checkNoMay(t, lasting(time))
	}
}

// zoned is bare with another Zone, and a record under it.
func zoned(zone string) api.Config {
	return changed(bare(), func(c *api.Config) {
		c.Zone, c.Static = zone, []api.RR{{Name: "a." + zone, Type: api.TypeA}}
	})
}

func TestZone(t *testing.T) {
	for _, zone := range []string{"a", "-", "0", "lan", "lan.net", "a.b.c", "a.b.c.d", "12345678.12345678.12345678.12345678", "--.--", "a.a.a.a"} {
		checkMay(t, zoned(zone))
	}
	for _, zone := range []string{
		"", ".", "lan.", ".lan", "lan..net", "Lan", "lan net", " lan", "lan\x00", "l\xe4n", "län", "*", "_a", "a.b.c.d.",
		"123456789", "a.123456789", "a.b.c.d.e", "12345678.12345678.12345678.12345678.1", "a.b.c.d.e.f.g.h", "a.b.c.d.e.f.g.h.i",
	} {
		checkNoMay(t, zoned(zone))
		checkNoMay(t, changed(bare(), func(c *api.Config) { c.Zone = zone }))
	}
	for b := range 256 {
		zone := "l" + string([]byte{byte(b)}) + "n"
		if c := changed(bare(), func(c *api.Config) { c.Zone = zone }); shape.MatchString(zone) {
			checkMay(t, c)
		} else {
			checkNoMay(t, c)
		}
	}
}

// standing is bare, whose Zone is lan, with these Static.
func standing(rs ...api.RR) api.Config {
	return changed(bare(), func(c *api.Config) { c.Static = rs })
}

func TestStaticCount(t *testing.T) {
	checkMay(t, standing([]api.RR{}...))
	// They may be alike: that each be there once is asked of hosts and clients alone.
	alike := slices.Repeat([]api.RR{{Name: "a.lan", Type: api.TypeA}}, 20)
	var unlike []api.RR
	for i := range 20 {
		unlike = append(unlike, api.RR{Name: string([]byte{'a' + byte(i)}) + ".lan", Type: []int{api.TypeA, api.TypeCname, api.TypeTxt}[i%3], Ttl: i})
	}
	for n := range 20 {
		if n <= 8 {
			checkMay(t, standing(alike[:n]...))
			checkMay(t, standing(unlike[:n]...))
		} else {
			checkNoMay(t, standing(alike[:n]...))
			checkNoMay(t, standing(unlike[:n]...))
		}
	}
}

// rows are the same record alone, behind others, ahead of others.
func rows(r api.RR) []api.Config {
	w := api.RR{Name: "www.lan", Type: api.TypeTxt}
	return []api.Config{standing(r), standing(w, r), standing(r, w), standing(w, w, w, w, r, w, w, w), standing(w, w, w, w, w, w, w, r)}
}

func TestStaticTypes(t *testing.T) {
	for kind := -10; kind < 300; kind++ {
		for _, c := range rows(api.RR{Name: "a.lan", Type: kind}) {
			if kind == 1 || kind == 5 || kind == 16 {
				checkMay(t, c)
			} else {
				checkNoMay(t, c)
			}
		}
	}
	// These may be records (layer 4), but none that stand.
	for _, r := range []api.RR{
		{Name: "a.lan", Type: api.TypeNs, Ttl: 60, Target: "b.lan"},
		{Name: "a.lan", Type: api.TypePtr, Ttl: 60, Target: "b.lan"},
		{Name: "a.lan", Type: api.TypeSoa, Ttl: 60, Target: "b.lan", Serial: 7},
		{Name: "a.lan", Type: api.TypeDhcid, Ttl: 60, Text: "\x00\x01\x01abcd"},
	} {
		for _, c := range rows(r) {
			checkNoMay(t, c)
		}
	}
	for _, x := range append([]int{256 + 1, 1<<16 + 1, 1<<32 + 1, 1<<32 + 5, 1<<32 + 16}, others...) {
		checkNoMay(t, standing(api.RR{Name: "a.lan", Type: x}))
	}
}

func TestStaticRecordsThatMayBe(t *testing.T) {
	for _, r := range []api.RR{
		{Name: "a.lan", Type: api.TypeA, Ttl: 1048576, Addr: 4294967295},
		{Name: "a.lan", Type: api.TypeCname, Ttl: 1048576, Target: ""},
		{Name: "a.lan", Type: api.TypeCname, Target: "beside.net"},
		{Name: "a.lan", Type: api.TypeCname, Target: "lan"},
		{Name: "a.lan", Type: api.TypeCname, Target: "a.lan"},
		{Name: "a.lan", Type: api.TypeCname, Target: "12345678.12345678.12345678.12345678.12345678.12345678.12345678.12345678"},
		{Name: "a.lan", Type: api.TypeTxt, Ttl: 1048576, Text: countedText(64)},
		{Name: "a.lan", Type: api.TypeTxt, Text: "\x00\xff"},
	} {
		for _, c := range rows(r) {
			checkMay(t, c)
		}
	}
}

func TestStaticRecordsThatMayNotBe(t *testing.T) {
	for _, r := range []api.RR{
		{Name: "a.lan", Type: api.TypeA, Ttl: -1},
		{Name: "a.lan", Type: api.TypeA, Ttl: 1048577},
		{Name: "a.lan", Type: api.TypeA, Addr: -1},
		{Name: "a.lan", Type: api.TypeA, Addr: 4294967296},
		{Name: "a.lan", Type: api.TypeA, Target: "b.lan"},
		{Name: "a.lan", Type: api.TypeA, Text: "b"},
		{Name: "a.lan", Type: api.TypeA, Serial: 1},
		{Name: "a.lan", Type: api.TypeCname, Target: "B.lan"},
		{Name: "a.lan", Type: api.TypeCname, Target: "b.lan."},
		{Name: "a.lan", Type: api.TypeCname, Target: "b.lan", Addr: 1},
		{Name: "a.lan", Type: api.TypeCname, Target: "b.lan", Text: "b"},
		{Name: "a.lan", Type: api.TypeCname, Target: "b.lan", Ttl: -1},
		{Name: "a.lan", Type: api.TypeTxt, Text: countedText(65)},
		{Name: "a.lan", Type: api.TypeTxt, Target: "b.lan"},
		{Name: "a.lan", Type: api.TypeTxt, Addr: 1},
		{Name: "a.lan", Type: api.TypeTxt, Ttl: 1048577},
		{Name: "A.lan", Type: api.TypeA},
		{Name: ".lan", Type: api.TypeA},
		{Name: "a..lan", Type: api.TypeA},
		{Name: "123456789.lan", Type: api.TypeA},
	} {
		for _, c := range rows(r) {
			checkNoMay(t, c)
		}
	}
}

func TestStaticNames(t *testing.T) {
	for _, c := range []struct {
		zone, under string
		may         bool
	}{
		{"lan", "a.lan", true},
		{"lan", "b.a.lan", true},
		{"lan", "lan.lan", true},
		{"lan", "-.lan", true},
		{"lan", "a.b.c.d.e.f.g.lan", true},
		{"lan", "12345678.12345678.12345678.12345678.12345678.12345678.12345678.lan", true},
		{"lan.net", "a.lan.net", true},
		{"lan.net", "lan.net.lan.net", true},
		{"a.b.c.d", "a.a.b.c.d", true},
		{"a.b.c.d", "1.2.3.4.a.b.c.d", true},
		{"a.a", "a.a.a", true},
		{"lan", "lan", false},
		{"lan", "", false},
		{"lan", "wlan", false},
		{"lan", "a.wlan", false},
		{"lan", "alan", false},
		{"lan", "a-lan", false},
		{"lan", "a.net", false},
		{"lan", "lan.net", false},
		{"lan", "lan.a", false},
		{"lan", "a.lan.", false},
		{"lan", "a.lan.net", false},
		{"lan", "a.LAN", false},
		{"lan", "a.b.c.d.e.f.g.h.lan", false},
		{"lan.net", "lan.net", false},
		{"lan.net", "net", false},
		{"lan.net", "lan", false},
		{"lan.net", "a.net", false},
		{"lan.net", "wlan.net", false},
		{"lan.net", "a.lan.net.net", false},
		{"lan.net", "a.lan", false},
		{"lan.net", "net.lan", false},
		{"a.b.c.d", "a.b.c.d", false},
		{"a.b.c.d", "b.c.d", false},
		{"a.b.c.d", "e.b.c.d", false},
		{"a.b.c.d", "1.2.3.4.5.a.b.c.d", false},
		{"a.a", "a.a", false},
		{"a.a", "a", false},
	} {
		for _, r := range []api.RR{{Type: api.TypeA}, {Type: api.TypeCname}, {Type: api.TypeTxt}} {
			for _, config := range rows(r) {
				config.Zone = c.zone
				for i := range config.Static {
					// The others beside go along with the zone.
					if config.Static[i].Name == "" {
						config.Static[i].Name = c.under
					} else {
						config.Static[i].Name = "www." + c.zone
					}
				}
				if c.may {
					checkMay(t, config)
				} else {
					checkNoMay(t, config)
				}
			}
		}
	}
}

func TestOneThingWrongAtATime(t *testing.T) {
	for _, c := range wrong() {
		checkNoMay(t, c)
	}
}

// wrong are configurations that may not be, each for one thing alone.
func wrong() []api.Config {
	var cs []api.Config
	for _, turn := range []func(c *api.Config){
		func(c *api.Config) { c.First = 1 },
		func(c *api.Config) { c.First = 16 },
		func(c *api.Config) { c.First = 7 },
		func(c *api.Config) { c.First = 12; c.Reserved = c.Reserved[:1]; c.Last = 20 },
		func(c *api.Config) { c.Last = 255 },
		func(c *api.Config) { c.Last = 18 },
		func(c *api.Config) { c.Last = 9 },
		func(c *api.Config) { c.Excluded[0] = 9 },
		func(c *api.Config) { c.Excluded[1] = 16 },
		func(c *api.Config) { c.Excluded[1] = 12 },
		func(c *api.Config) { c.Excluded = append(c.Excluded, 10, 11, 13, 14, 10, 11, 13) },
		func(c *api.Config) { c.Reserved[0].Host = 9 },
		func(c *api.Config) { c.Reserved[1].Host = 16 },
		func(c *api.Config) { c.Reserved[1].Host = 14 },
		func(c *api.Config) { c.Reserved[0].Client = "" },
		func(c *api.Config) { c.Reserved[1].Client = countedText(17) },
		func(c *api.Config) { c.Reserved[1].Client = "printer" },
		func(c *api.Config) {
			c.Reserved = append(c.Reserved, api.Reserve{Client: "a", Host: 10}, api.Reserve{Client: "b", Host: 12}, api.Reserve{Client: "c", Host: 13})
		},
		func(c *api.Config) { c.Time = 0 },
		func(c *api.Config) { c.Time = 1048577 },
		func(c *api.Config) { c.Zone = "lan.org" },
		func(c *api.Config) { c.Zone, c.Static = "", nil },
		func(c *api.Config) { c.Zone, c.Static = "a.b.c.d.e", nil },
		func(c *api.Config) { c.Static[2].Type = api.TypeDhcid },
		func(c *api.Config) { c.Static[1].Name = "lan.net" },
		func(c *api.Config) { c.Static[0].Target = "lan.net" },
		func(c *api.Config) { c.Static = slices.Repeat(c.Static, 3) },
	} {
		cs = append(cs, changed(ordinary(), turn))
	}
	return cs
}

func TestAddressAndHost(t *testing.T) {
	for host := -1000; host < 1000; host++ {
		addr, e := Address(host)
		if host < 1 || host > 254 {
			if addr != 0 || e != api.ErrConfForm {
				t.Errorf("P11.2: Address(%d): %d, %d; want %d and nothing beside", host, addr, e, api.ErrConfForm)
			}
			if got := Host(net + host); got != 0 {
				t.Errorf("P11.2: Host(%d): %d", net+host, got)
			}
			continue
		}
		if addr != net+host || e != api.OK {
			t.Errorf("P11.2: Address(%d): %d, %d; want %d", host, addr, e, net+host)
		}
		if got := Host(net + host); got != host {
			t.Errorf("P11.2: Host(%d): %d; want %d", net+host, got, host)
		}
		// A host alone is no address, nor is one of another net.
		for _, beside := range []int{0, net - 256, net + 256, net - 1<<16, net + 1<<16, net + 1<<32, net - 1<<32, -net - 2*host, 10 << 25, 10 << 16, 192<<24 | 168<<16, math.MinInt, math.MaxInt - 1000} {
			if got := Host(beside + host); got != 0 {
				t.Errorf("P11.2: Host(%d): %d", beside+host, got)
			}
		}
	}
	if addr, _ := Address(1); addr != api.Server || Host(api.Server) != 1 || Host(api.Net) != 0 || Host(net+255) != 0 {
		t.Error("P11.2: the Server's address is another one")
	}
	for _, x := range others {
		for d := -300; d <= 300; d += 50 {
			if addr, e := Address(x + d); (x+d < 1 || x+d > 254) && (addr != 0 || e != api.ErrConfForm) {
				t.Errorf("P11.2: Address(%d): %d, %d; want %d and nothing beside", x+d, addr, e, api.ErrConfForm)
			}
			if got := Host(x + d); got != 0 {
				t.Errorf("P11.2: Host(%d): %d", x+d, got)
			}
		}
	}
}

// mayPlainly reads the chapter's first sentence a second time.
func mayPlainly(c api.Config) bool {
	if c.First < 2 || c.First > 254 || c.Last < 2 || c.Last > 254 || c.First > c.Last || c.Last-c.First+1 > 8 ||
		c.Time < 1 || c.Time > 1048576 || len(c.Excluded) > 8 || len(c.Reserved) > 4 || len(c.Static) > 8 ||
		c.Zone == "" || !shape.MatchString(c.Zone) || strings.Count(c.Zone, ".") > 3 {
		return false
	}
	for i, x := range c.Excluded {
		if x < c.First || x > c.Last || slices.Index(c.Excluded, x) != i {
			return false
		}
	}
	for i, r := range c.Reserved {
		for _, other := range c.Reserved[:i] {
			if other.Host == r.Host || other.Client == r.Client {
				return false
			}
		}
		if r.Host < c.First || r.Host > c.Last || len(r.Client) == 0 || len(r.Client) > 16 {
			return false
		}
	}
	for _, r := range c.Static {
		if !standsPlainly(r) || !strings.HasSuffix(r.Name, "."+c.Zone) {
			return false
		}
	}
	return true
}

// standsPlainly reads which records may be, of those that may stand, a second time.
func standsPlainly(r api.RR) bool {
	if !shape.MatchString(r.Name) || r.Ttl < 0 || r.Ttl > 1048576 || r.Serial != 0 {
		return false
	}
	switch r.Type {
	case 1:
		return r.Addr >= 0 && r.Addr <= 4294967295 && r.Target == "" && r.Text == ""
	case 5:
		return r.Addr == 0 && shape.MatchString(r.Target) && r.Text == ""
	case 16:
		return r.Addr == 0 && r.Target == "" && len(r.Text) <= 64
	}
	return false
}

// anyOf is one of these by chance.
func anyOf[T any](r *rand.Rand, xs ...T) T {
	return xs[r.Intn(len(xs))]
}

// anyConfig is one by chance; about half of them may be.
func anyConfig(r *rand.Rand) api.Config {
	c := api.Config{First: 2 + r.Intn(246), Time: 1 + r.Intn(1048576), Zone: anyOf(r, "lan", "lan.net", "a.b.c.d", "a.b.c", "-")}
	c.Last = c.First + r.Intn(8)
	for _, i := range r.Perm(c.Last - c.First + 1)[:r.Intn(c.Last-c.First+2)] {
		c.Excluded = append(c.Excluded, c.First+i)
	}
	for _, i := range r.Perm(c.Last - c.First + 1)[:min(4, r.Intn(c.Last-c.First+2))] {
		c.Reserved = append(c.Reserved, api.Reserve{Client: countedText(1 + r.Intn(16))[1-r.Intn(2):] + string([]byte{byte(i)}), Host: c.First + i})
	}
	for range r.Intn(9) {
		c.Static = append(c.Static, anyRecord(r, c.Zone))
	}
	for range r.Intn(2) * (1 + r.Intn(2)) {
		spoil(r, &c)
	}
	return c
}

// anyRecord is one that may stand in a zone.
func anyRecord(r *rand.Rand, zone string) api.RR {
	x := api.RR{Name: anyOf(r, "a", "a-1", "www.b", "12345678", "1.2.3.4") + "." + zone, Ttl: r.Intn(1048577)}
	switch r.Intn(3) {
	case 0:
		x.Type, x.Addr = api.TypeA, r.Intn(4294967296)
	case 1:
		x.Type, x.Target = api.TypeCname, anyOf(r, "", "a.lan", zone, "b.net", "1.2.3.4.5.6.7.8")
	default:
		x.Type, x.Text = api.TypeTxt, countedText(r.Intn(65))
	}
	return x
}

// spoil turns one thing, which mostly may not be then.
func spoil(r *rand.Rand, c *api.Config) {
	host := anyOf(r, 0, 1, 2, 254, 255, c.First-1, c.First, c.Last, c.Last+1, c.First+r.Intn(8), r.Int(), -r.Int())
	switch r.Intn(9) {
	case 0:
		c.First = host
	case 1:
		c.Last = host
	case 2:
		c.Excluded = append(c.Excluded, host)
	case 3:
		c.Reserved = append(c.Reserved, api.Reserve{Client: anyOf(r, "", "a", countedText(2), countedText(16), countedText(17)), Host: host})
	case 4:
		c.Time = anyOf(r, 0, 1, 1048576, 1048577, r.Int(), -r.Int())
	case 5:
		c.Zone = anyOf(r, "", "lan", "net", "Lan", "b.c.d", "a.a.b.c.d", "a.b.c.d.e", "123456789")
	case 6:
		c.Static = append(c.Static, anyRecord(r, anyOf(r, c.Zone, "lan", "net", "wlan")))
	case 7:
		if n := len(c.Static); n > 0 {
			spoilRecord(r, &c.Static[r.Intn(n)], c.Zone)
		}
	default:
		if n := len(c.Reserved); n > 0 {
			c.Reserved[r.Intn(n)].Client = anyOf(r, "", "a", c.Reserved[0].Client, countedText(16), countedText(17))
		}
	}
}

// spoilRecord turns one thing of a record, which mostly may not be then.
func spoilRecord(r *rand.Rand, x *api.RR, zone string) {
	switch r.Intn(7) {
	case 0:
		x.Name = anyOf(r, "", zone, "x"+zone, "x."+zone, "X."+zone, "lan", "a.lan", "1.2.3.4.5.6.7."+zone)
	case 1:
		x.Type = r.Intn(60)
	case 2:
		x.Ttl = anyOf(r, -1, 0, 1048576, 1048577, r.Int())
	case 3:
		x.Addr = anyOf(r, -1, 0, 1, 4294967295, 4294967296)
	case 4:
		x.Target = anyOf(r, "", "a.lan", "A.lan", "lan.")
	case 5:
		x.Text = countedText(anyOf(r, 0, 1, 64, 65))
	default:
		x.Serial = r.Intn(2)
	}
}

func TestAnyConfigurations(t *testing.T) {
	r := rand.New(rand.NewSource(11))
	const rounds = 20000
	took := 0
	for range rounds {
		c := anyConfig(r)
		if !mayPlainly(c) {
			checkNoMay(t, c)
			continue
		}
		took++
		checkMay(t, c)
	}
	if took < rounds/3 || took > rounds*4/5 {
		t.Errorf("%d of %d are taken", took, rounds)
	}
}

// roomy is ordinary with more in each list's room than the list tells; what is there may be, were it not twice.
func roomy(c api.Config) (cut api.Config, whole api.Config) {
	whole = changed(c, func(c *api.Config) {
		c.Excluded = append(c.Excluded, c.Excluded...)
		c.Reserved = append(c.Reserved, c.Reserved...)
		c.Static = append(c.Static, api.RR{Name: "beside.org", Type: api.TypeOpt})
	})
	cut = whole
	cut.Excluded, cut.Reserved, cut.Static = whole.Excluded[:len(c.Excluded)], whole.Reserved[:len(c.Reserved)], whole.Static[:len(c.Static)]
	return cut, whole
}

func TestWhatIsHandedInIsNotChanged(t *testing.T) {
	for i, c := range append(wrong(), ordinary(), bare()) {
		cut, whole := roomy(c)
		old := changed(whole, func(*api.Config) {})
		May(cut)
		for host := range 256 {
			Usable(cut, host)
			Owner(cut, host)
		}
		for _, client := range clientsBeside(cut) {
			Reserved(cut, client)
		}
		if !reflect.DeepEqual(whole, old) {
			t.Errorf("R4: row %d: %v has become %v", i, old, whole)
		}
	}
	// What is behind a list's end is not read either.
	cut, whole := roomy(ordinary())
	checkMay(t, cut)
	checkNoMay(t, whole)
}

// meet: do two texts share memory.
func meet(a, b string) bool {
	from, to := uintptr(unsafe.Pointer(unsafe.StringData(a))), uintptr(unsafe.Pointer(unsafe.StringData(b)))
	return from < to+uintptr(len(b)) && to < from+uintptr(len(a))
}

func TestAnswersAreTheirOwn(t *testing.T) {
	for n := 1; n <= 16; n++ {
		c := reserving(api.Reserve{Client: strings.Clone(countedText(n)), Host: 103})
		first, _ := Owner(c, 103)
		second, _ := Owner(c, 103)
		if meet(first, c.Reserved[0].Client) || meet(second, c.Reserved[0].Client) || meet(first, second) {
			t.Errorf("R4: Owner of %s shares memory", short(c))
		}
		c.Reserved[0].Client = "another"
		if first != countedText(n) || second != countedText(n) {
			t.Errorf("R4: Owner has told %q, %q", first, second)
		}
	}
}

func TestLongListsAndTextsEnd(t *testing.T) {
	const n = 1 << 20
	hosts, rs, static := make([]int, n), make([]api.Reserve, n), make([]api.RR, n)
	for i := range n {
		hosts[i] = 100 + i%8
		rs[i] = api.Reserve{Client: "a", Host: 100}
		static[i] = api.RR{Name: "a.lan", Type: api.TypeA}
	}
	checkNoMay(t, excluding(hosts...))
	checkNoMay(t, reserving(rs...))
	checkNoMay(t, standing(static...))
	for _, s := range []string{"\x00", "a", "a.", ".", "\xff", "12345678."} {
		long := strings.Repeat(s, n)
		checkNoMay(t, reserving(api.Reserve{Client: long, Host: 100}))
		checkNoMay(t, zoned(long))
		checkNoMay(t, standing(api.RR{Name: long + "lan", Type: api.TypeA}))
		checkNoMay(t, standing(api.RR{Name: "a.lan", Type: api.TypeCname, Target: long}))
		checkNoMay(t, standing(api.RR{Name: "a.lan", Type: api.TypeTxt, Text: long}))
		if host, is := Reserved(ordinary(), long); host != 0 || is {
			t.Errorf("R1: %q again and again: %d, %v", s, host, is)
		}
	}
}

func TestCallsAtOneTime(t *testing.T) {
	c, none := ordinary(), wrong()[0]
	var all sync.WaitGroup
	for n := range 8 {
		all.Go(func() {
			for range 50 {
				checkMay(t, c)
				checkNoMay(t, none)
				if addr, e := Address(n + 1); addr != net+n+1 || e != api.OK || Host(addr) != n+1 {
					t.Errorf("P11.2: Address(%d): %d, %d", n+1, addr, e)
				}
			}
		})
	}
	all.Wait()
}
