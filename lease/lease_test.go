package lease

import (
	"fmt"
	"math"
	"math/rand"
	"regexp"
	"strings"
	"sync"
	"testing"

	"pinfold/api"
)

const (
	free     = 0
	offered  = 1
	bound    = 2
	declined = 3
	lastTime = 1 << 40
)

// shape is chapter 2's sentence of which names may be, written anew.
var shape = regexp.MustCompile(`\A([a-z0-9-]{1,8}(\.[a-z0-9-]{1,8}){0,7})?\z`)

// states are all that a lease may have.
var states = []int{free, offered, bound, declined}

// others are numbers that nothing of a lease may be.
var others = []int{
	-1, -2, -3, -100, -254, -256, -1 << 31, -1 << 32, -1 << 40, -1 << 62, math.MinInt, math.MinInt + 1, math.MinInt + 2,
	lastTime + 1, lastTime + 2, 1 << 41, 1 << 62, math.MaxInt, math.MaxInt - 1, math.MaxInt - 2,
}

// nows are times to ask Live at, those around a lease's Until among them.
func nows(until int) []int {
	// until-1 and until+1 may go round: these too are times to ask at.
	return append([]int{until - 2, until - 1, until, until + 1, until + 2, 0, 1, 8, lastTime - 1, lastTime}, others...)
}

// short tells a lease, but not all of a long one.
func short(l api.Lease) string {
	return fmt.Sprintf("{Host:%d State:%d Client:%.60q (%d) Until:%d Name:%.60q (%d) Won:%v}", l.Host, l.State, l.Client, len(l.Client), l.Until, l.Name, len(l.Name), l.Won)
}

func checkMay(t *testing.T, l api.Lease) {
	t.Helper()
	if !May(l) {
		t.Errorf("P12.1: %s may be", short(l))
	}
	for _, now := range nows(l.Until) {
		want := l.State != free && l.Until > now
		if got := Live(l, now); got != want {
			t.Errorf("P12.1: Live(%s, %d): %v, want %v", short(l), now, got, want)
		}
	}
}

func checkNoMay(t *testing.T, l api.Lease) {
	t.Helper()
	if May(l) {
		t.Errorf("P12.1: %s may not be", short(l))
	}
	for _, now := range nows(l.Until) {
		if Live(l, now) {
			t.Errorf("P12.1: Live(%s, %d), but it may not be", short(l), now)
		}
	}
}

func check(t *testing.T, l api.Lease, may bool) {
	t.Helper()
	if may {
		checkMay(t, l)
	} else {
		checkNoMay(t, l)
	}
}

// ordinary are leases that may be, two at least of each State.
func ordinary() []api.Lease {
	return []api.Lease{
		{Host: 10},
		{Host: 11, Client: "was here", Until: 77},
		{Host: 12, State: offered, Client: "c", Until: 8},
		{Host: 13, State: offered, Client: "\x01\x02\x00\x5e\x10\x20\x30", Until: 1000},
		{Host: 14, State: bound, Client: "c", Until: 3600},
		{Host: 15, State: bound, Client: "c", Until: 3600, Name: "host-1.lan.net"},
		{Host: 16, State: bound, Client: "c", Until: 3600, Name: "host-1", Won: true},
		{Host: 17, State: declined, Until: 64},
		{Host: 18, State: declined, Client: "c", Until: 64},
	}
}

// changed is a copy of l with one thing turned.
func changed(l api.Lease, turn func(l *api.Lease)) api.Lease {
	turn(&l)
	return l
}

func TestOrdinaryLeases(t *testing.T) {
	for _, l := range ordinary() {
		checkMay(t, l)
	}
	checkNoMay(t, api.Lease{})
	l := api.Lease{Host: 16, State: bound, Client: "c", Until: 100, Name: "a", Won: true}
	for now, want := range map[int]bool{-5: true, 0: true, 99: true, 100: false, 101: false} {
		if got := Live(l, now); got != want {
			t.Errorf("P12.1: Live at %d, until 100: %v", now, got)
		}
	}
	l = api.Lease{Host: 16, Client: "c", Until: 100}
	if !May(l) || Live(l, 0) || Live(l, 99) || Live(l, math.MinInt) {
		t.Error("P12.1: who is StateFree is Live")
	}
	if api.StateFree != free || api.StateOffered != offered || api.StateBound != bound || api.StateDeclined != declined || api.MaxClient != 16 || api.MaxNow != lastTime {
		t.Error("the numbers of DOC.md are other ones")
	}
}

func TestHost(t *testing.T) {
	for _, l := range ordinary() {
		for host := -600; host < 1200; host++ {
			check(t, changed(l, func(l *api.Lease) { l.Host = host }), 2 <= host && host <= 254)
		}
		for _, host := range append([]int{0, 1, 255, 1<<32 + 2, 1<<32 + 254, 10<<24 + 14, 1<<16 + 10}, others...) {
			checkNoMay(t, changed(l, func(l *api.Lease) { l.Host = host }))
		}
	}
}

func TestState(t *testing.T) {
	for state := -20; state < 300; state++ {
		for _, l := range []api.Lease{{Host: 2}, {Host: 2, Client: "c"}, {Host: 2, Client: "c", Until: 9}} {
			l.State = state
			check(t, l, state == free || state == declined || l.Client != "" && (state == offered || state == bound))
		}
	}
	for _, state := range append([]int{1 << 8, 1<<8 + 1, 1<<8 + 2, 1 << 16, 1<<16 + 2, 1 << 32, 1<<32 + 1, 1<<32 + 2, 1<<32 + 3}, others...) {
		for _, l := range ordinary() {
			checkNoMay(t, changed(l, func(l *api.Lease) { l.State = state }))
		}
	}
}

// countedText has bytes that tell where they stand.
func countedText(n int) string {
	b := make([]byte, n)
	for i := range b {
		b[i] = byte(i*7 + i/256 + 1)
	}
	return string(b)
}

func TestClient(t *testing.T) {
	for _, state := range states {
		l := api.Lease{Host: 100, State: state, Until: 50}
		for n := range 300 {
			for _, client := range []string{countedText(n), strings.Repeat("\x00", n), strings.Repeat("\xff", n), strings.Repeat("é", n/2) + strings.Repeat(" ", n%2)} {
				l.Client = client
				check(t, l, n <= 16 && (n > 0 || state == free || state == declined))
			}
		}
		for b := range 256 {
			for _, client := range []string{string([]byte{byte(b)}), string([]byte{'c', byte(b), 'd'}), countedText(15) + string([]byte{byte(b)})} {
				l.Client = client
				checkMay(t, l)
			}
		}
		for _, n := range []int{256, 256 + 1, 256 + 16, 1 << 16, 1<<16 + 5, 1 << 20} {
			l.Client = countedText(n)
			checkNoMay(t, l)
		}
	}
}

func TestUntil(t *testing.T) {
	for _, l := range ordinary() {
		for _, until := range []int{0, 1, 2, 8, 64, 3600, 1 << 20, 1<<31 - 1, 1 << 31, 1<<32 - 1, 1 << 32, 1<<32 + 1, lastTime - 1, lastTime} {
			checkMay(t, changed(l, func(l *api.Lease) { l.Until = until }))
		}
		for _, until := range others {
			checkNoMay(t, changed(l, func(l *api.Lease) { l.Until = until }))
		}
	}
}

// goodNames may be, and none of them is the root.
var goodNames = []string{
	"a", "z", "0", "9", "-", "host-1", "lan.net", "host-1.lan.net", "12345678", "12345678.12345678", "a.b.c.d.e.f.g.h",
	"12345678.12345678.12345678.12345678.12345678.12345678.12345678.12345678", "--.--",
}

// badNames may not be.
var badNames = []string{
	".", "a.", ".a", "a..b", "A", "aB", "host_1", "a b", " ", " a", "a ", "\x00", "a\x00", "é", "\xff", "*", "123456789", "a.123456789.b",
	"a.b.c.d.e.f.g.h.i", "a.b.c.d.e.f.g.h.", "Host-1.lan",
}

func TestName(t *testing.T) {
	for _, state := range states {
		for _, client := range []string{"", "c"} {
			l := api.Lease{Host: 100, State: state, Client: client, Until: 50}
			check(t, l, client != "" || state == free || state == declined)
			for _, name := range goodNames {
				l.Name = name
				check(t, l, state == bound && client != "")
			}
			for _, name := range badNames {
				l.Name = name
				checkNoMay(t, l)
				l.Won = true
				checkNoMay(t, l)
				l.Won = false
			}
		}
	}
	for b := range 256 {
		for _, name := range []string{string([]byte{byte(b)}), string([]byte{'a', byte(b), 'b'}), string([]byte{'a', '.', 'b', byte(b)})} {
			for _, won := range []bool{false, true} {
				check(t, api.Lease{Host: 100, State: bound, Client: "c", Until: 50, Name: name, Won: won}, shape.MatchString(name))
			}
		}
	}
}

func TestWon(t *testing.T) {
	for _, state := range states {
		for _, client := range []string{"", "c"} {
			l := api.Lease{Host: 100, State: state, Client: client, Until: 50, Won: true}
			checkNoMay(t, l)
			for _, name := range goodNames {
				l.Name = name
				check(t, l, state == bound && client != "")
			}
		}
	}
	for _, l := range ordinary() {
		check(t, changed(l, func(l *api.Lease) { l.Won = true }), l.State == bound && l.Name != "")
	}
}

func TestLiveUntil(t *testing.T) {
	for _, until := range []int{0, 1, 2, 9, 3600, 1 << 31, 1 << 32, lastTime - 1, lastTime} {
		for _, l := range ordinary() {
			l.Until = until
			for _, at := range []struct {
				now  int
				live bool
			}{
				{until - 1, true}, {until, false}, {until + 1, false},
				{math.MinInt, true}, {math.MinInt + 1, true}, {-1 << 32, true}, {-1, true},
				{math.MaxInt, false}, {math.MaxInt - 1, false}, {lastTime, false}, {1 << 41, false},
			} {
				if got := Live(l, at.now); got != (at.live && l.State != free) {
					t.Errorf("P12.1: Live(%s, %d): %v", short(l), at.now, got)
				}
			}
		}
	}
}

func TestOneThingWrong(t *testing.T) {
	wrongs := []func(l *api.Lease){
		func(l *api.Lease) { l.Host = 1 },
		func(l *api.Lease) { l.Host = 255 },
		func(l *api.Lease) { l.Host = 0 },
		func(l *api.Lease) { l.State = -1 },
		func(l *api.Lease) { l.State = 4 },
		func(l *api.Lease) { l.Client = countedText(17) },
		func(l *api.Lease) { l.Until = -1 },
		func(l *api.Lease) { l.Until = lastTime + 1 },
		func(l *api.Lease) { l.Name = "A" },
		func(l *api.Lease) { l.Name = "." },
		func(l *api.Lease) { l.Name, l.Won = "", true },
	}
	for _, l := range ordinary() {
		for _, wrong := range wrongs {
			checkNoMay(t, changed(l, wrong))
			for _, more := range wrongs {
				twice := changed(changed(l, wrong), more)
				if !mayPlainly(twice) {
					checkNoMay(t, twice)
				}
			}
		}
	}
}

// mayPlainly is the chapter's sentence, read once more.
func mayPlainly(l api.Lease) bool {
	var wrong []string
	if l.Host < 2 || l.Host > 254 {
		wrong = append(wrong, "Host")
	}
	if l.State != free && l.State != offered && l.State != bound && l.State != declined {
		wrong = append(wrong, "State")
	}
	if len(l.Client) > 16 {
		wrong = append(wrong, "Client")
	}
	if l.Until < 0 || l.Until > lastTime {
		wrong = append(wrong, "Until")
	}
	if !shape.MatchString(l.Name) {
		wrong = append(wrong, "Name")
	}
	if (l.State == offered || l.State == bound) && l.Client == "" {
		wrong = append(wrong, "nobody's")
	}
	if l.Name != "" && l.State != bound {
		wrong = append(wrong, "Name without being bound")
	}
	if l.Won && l.State != bound {
		wrong = append(wrong, "Won without being bound")
	}
	if l.Won && l.Name == "" {
		wrong = append(wrong, "Won the root")
	}
	return len(wrong) == 0
}

// anyOf is one of them.
func anyOf[T any](r *rand.Rand, xs ...T) T {
	return xs[r.Intn(len(xs))]
}

// anyLease is mostly not far from one that may be.
func anyLease(r *rand.Rand) api.Lease {
	l := anyOf(r, ordinary()...)
	for range r.Intn(4) {
		switch r.Intn(7) {
		case 0:
			l.Host = anyOf(r, 0, 1, 2, 3, 128, 253, 254, 255, 256, -r.Intn(300), r.Intn(300), int(r.Uint64()))
		case 1:
			l.State = anyOf(r, 0, 1, 2, 3, 3, 2, 1, 0, 4, -1, int(r.Uint64()))
		case 2:
			l.Client = countedText(anyOf(r, 0, 0, 1, 5, 15, 16, 17, r.Intn(40)))
		case 3:
			l.Until = anyOf(r, 0, 1, -1, lastTime-1, lastTime, lastTime+1, r.Intn(5000), int(r.Uint64()))
		case 4:
			l.Name = anyOf(r, "", "", anyOf(r, goodNames...), anyOf(r, badNames...))
		case 5:
			l.Won = !l.Won
		case 6:
			l.Name, l.Won = anyOf(r, goodNames...), r.Intn(2) == 0
		}
	}
	return l
}

func TestAnyLeases(t *testing.T) {
	const rounds = 40000
	r := rand.New(rand.NewSource(12))
	took := 0
	for range rounds {
		l := anyLease(r)
		may := mayPlainly(l)
		check(t, l, may)
		if may {
			took++
		}
		now := anyOf(r, l.Until-1, l.Until, l.Until+1, int(r.Uint64()))
		if got, want := Live(l, now), may && l.State != free && now < l.Until; got != want {
			t.Errorf("P12.1: Live(%s, %d): %v, want %v", short(l), now, got, want)
		}
		if t.Failed() {
			return
		}
	}
	if took < rounds/5 || took > rounds*4/5 {
		t.Errorf("%d of %d may be: these leases ask too little", took, rounds)
	}
}

func FuzzLease(f *testing.F) {
	for _, l := range ordinary() {
		f.Add(l.Host, l.State, l.Client, l.Until, l.Name, l.Won, l.Until-1)
		f.Add(l.Host, l.State, l.Client, l.Until, l.Name, !l.Won, l.Until)
	}
	f.Add(0, 0, "", 0, "", false, 0)
	f.Add(math.MinInt, math.MinInt, "\xff\x00", math.MinInt, "\xff.\x00", true, math.MinInt)
	f.Add(math.MaxInt, math.MaxInt, countedText(17), math.MaxInt, "a..b", true, math.MaxInt)
	f.Fuzz(func(t *testing.T, host int, state int, client string, until int, name string, won bool, now int) {
		l := api.Lease{Host: host, State: state, Client: client, Until: until, Name: name, Won: won}
		may := mayPlainly(l)
		check(t, l, may)
		if Live(l, now) != (may && state != free && until > now) {
			t.Errorf("P12.1: Live(%s, %d): %v", short(l), now, Live(l, now))
		}
	})
}

func TestLongTextsEnd(t *testing.T) {
	const long = 1 << 24
	for _, text := range []string{strings.Repeat("a", long), strings.Repeat(".", long), strings.Repeat("a.", long/2), strings.Repeat("\x00", long)} {
		for _, state := range states {
			l := api.Lease{Host: 100, State: state, Client: "c", Until: 50, Name: text}
			if May(l) || Live(l, 0) {
				t.Errorf("P12.1: a name of %d bytes may be", long)
			}
			l.Client, l.Name = text, ""
			if May(l) || Live(l, 0) {
				t.Errorf("P12.1: a client of %d bytes may be", long)
			}
		}
	}
}

func TestCallsAtOneTime(t *testing.T) {
	all := sync.WaitGroup{}
	for range 8 {
		all.Go(func() {
			for range 200 {
				for _, l := range ordinary() {
					if !May(l) || Live(l, l.Until-1) != (l.State != free) || Live(l, l.Until) {
						t.Errorf("R5: %s is told otherwise among other calls", short(l))
					}
				}
			}
		})
	}
	all.Wait()
}
