package table

import (
	"fmt"
	"math"
	"math/rand"
	"regexp"
	"slices"
	"strings"
	"sync"
	"testing"
	"unsafe"

	"pinfold/api"
)

const (
	free     = 0
	offered  = 1
	bound    = 2
	declined = 3
	lastTime = 1 << 40
)

// shape is chapter 2's sentence of which names may be, written anew.
var shape = regexp.MustCompile(`\A([a-z0-9-]{1,8}(\.[a-z0-9-]{1,8}){0,7})?\z`)

// ordinary are leases that may be, with room for more Hosts ahead of them, between them and behind them; each time all of it is new.
func ordinary() []api.Lease {
	return []api.Lease{
		{Host: 10, Client: "a", Until: 500},
		{Host: 12, State: offered, Client: "b", Until: 100},
		{Host: 14, State: bound, Client: "a", Until: 200, Name: "host-1.lan.net", Won: true},
		{Host: 16, State: declined, Client: "c", Until: 300},
		{Host: 18, State: bound, Client: "b", Until: 400, Name: "host-2"},
		{Host: 20, State: offered, Client: "a", Until: 500},
	}
}

// wrongs are leases of a Host that may not be, one for each thing that can be wrong.
func wrongs(host int) []api.Lease {
	l := api.Lease{Host: host, State: bound, Client: "a", Until: 200, Name: "host-1", Won: true}
	ls := slices.Repeat([]api.Lease{l}, 12)
	ls[0].State = 4
	ls[1].State = -1
	ls[2].Client = ""
	ls[3].Client = countedText(17)
	ls[4].Until = -1
	ls[5].Until = lastTime + 1
	ls[6].Name = "Host-1"
	ls[7].Name = ""
	ls[8].State = free
	ls[9].State = declined
	ls[10].State, ls[10].Won = offered, false
	ls[11].State, ls[11].Name = free, ""
	return ls
}

// wrongHosts are no lease's.
var wrongHosts = []int{
	0, 1, 255, 256, 256 + 10, -1, -2, -10, 1 << 16, 1<<16 + 10, 1<<32 + 10, 10<<24 + 10, 1 << 31, 1 << 62,
	math.MinInt, math.MinInt + 1, math.MinInt + 10, math.MaxInt, math.MaxInt - 1,
}

// row are n leases without a client, from a Host on.
func row(host int, n int) []api.Lease {
	var ls []api.Lease
	for i := range n {
		ls = append(ls, api.Lease{Host: host + i})
	}
	return ls
}

// put is a copy of ls with l ahead of the place i.
func put(ls []api.Lease, i int, l api.Lease) []api.Lease {
	return slices.Insert(slices.Clone(ls), i, l)
}

// countedText has bytes that tell where they stand.
func countedText(n int) string {
	b := make([]byte, n)
	for i := range b {
		b[i] = byte(i*7 + i/256 + 1)
	}
	return string(b)
}

// short tells leases, but not all of long ones.
func short(ls ...api.Lease) string {
	var s strings.Builder
	for _, l := range ls[:min(len(ls), 20)] {
		fmt.Fprintf(&s, "{Host:%d State:%d Client:%.30q Until:%d Name:%.30q Won:%v}", l.Host, l.State, l.Client, l.Until, l.Name, l.Won)
	}
	return fmt.Sprintf("%d of %s", len(ls), s.String())
}

// leasePlainly is chapter 12's sentence of which lease may be, written anew.
func leasePlainly(l api.Lease) bool {
	if l.Host < 2 || l.Host > 254 || len(l.Client) > 16 || l.Until < 0 || l.Until > lastTime || !shape.MatchString(l.Name) {
		return false
	}
	switch l.State {
	case bound:
		return l.Client != "" && !(l.Won && l.Name == "")
	case offered:
		return l.Client != "" && l.Name == "" && !l.Won
	case free, declined:
		return l.Name == "" && !l.Won
	}
	return false
}

// mayPlainly is the chapter's first sentence, read once more.
func mayPlainly(ls []api.Lease) bool {
	if len(ls) > 8 {
		return false
	}
	highest := math.MinInt
	for _, l := range ls {
		if !leasePlainly(l) || l.Host <= highest {
			return false
		}
		highest = l.Host
	}
	return true
}

// findPlainly is Find, read once more.
func findPlainly(ls []api.Lease, host int) (api.Lease, bool) {
	for _, l := range ls {
		if l.Host == host {
			return l, true
		}
	}
	return api.Lease{}, false
}

// withPlainly is With, read once more.
func withPlainly(ls []api.Lease, l api.Lease) ([]api.Lease, api.Errno) {
	if !mayPlainly(ls) {
		return nil, api.ErrTableForm
	}
	var with []api.Lease
	at := 0
	for _, x := range ls {
		if x.Host < l.Host {
			at++
		}
		if x.Host != l.Host {
			with = append(with, x)
		}
	}
	with = put(with, at, l)
	if !mayPlainly(with) {
		return nil, api.ErrTableForm
	}
	return with, api.OK
}

// ofPlainly is Of, read once more.
func ofPlainly(ls []api.Lease, client string, now int) (api.Lease, bool) {
	if !mayPlainly(ls) {
		return api.Lease{}, false
	}
	for _, l := range ls {
		if (l.State == offered || l.State == bound) && l.Until > now && l.Client == client {
			return l, true
		}
	}
	return api.Lease{}, false
}

func checkFind(t *testing.T, ls []api.Lease, host int) {
	t.Helper()
	want, has := findPlainly(ls, host)
	if got, is := Find(ls, host); got != want || is != has {
		t.Errorf("P13.1: Find(%s, %d): %s, %v; want %s, %v", short(ls...), host, short(got), is, short(want), has)
	}
}

func checkOf(t *testing.T, ls []api.Lease, client string, now int) {
	t.Helper()
	want, has := ofPlainly(ls, client, now)
	if got, is := Of(ls, client, now); got != want || is != has {
		t.Errorf("P13.2: Of(%s, %.30q, %d): %s, %v; want %s, %v", short(ls...), client, now, short(got), is, short(want), has)
	}
}

func checkWith(t *testing.T, ls []api.Lease, l api.Lease) {
	t.Helper()
	want, wantE := withPlainly(ls, l)
	old := slices.Clone(ls)
	got, e := With(ls, l)
	if !slices.Equal(got, want) || e != wantE {
		t.Errorf("P13.1: With(%s, %s): %s, %d; want %s, %d", short(ls...), short(l), short(got...), e, short(want...), wantE)
	}
	if e != api.OK && got != nil {
		t.Errorf("R2: With(%s, %s): %s beside %d", short(ls...), short(l), short(got...), e)
	}
	if !slices.Equal(ls, old) {
		t.Errorf("R4: With(%s, %s) has made %s of them", short(old...), short(l), short(ls...))
	}
}

// check asks leases after all that they tell.
func check(t *testing.T, ls []api.Lease, may bool) {
	t.Helper()
	if got := May(ls); got != may {
		t.Errorf("P13.1: May(%s): %v", short(ls...), got)
	}
	if mayPlainly(ls) != may {
		t.Errorf("May(%s), read once more, isn't %v", short(ls...), may)
	}
	hosts, clients, nows := beside(ls)
	for _, host := range hosts {
		checkFind(t, ls, host)
		checkWith(t, ls, api.Lease{Host: host})
	}
	for _, client := range clients {
		for _, now := range nows {
			checkOf(t, ls, client, now)
		}
	}
}

// beside are the hosts, clients and times that leases tell of, and those around them.
func beside(ls []api.Lease) (hosts []int, clients []string, nows []int) {
	hosts = []int{0, 1, 2, 3, 254, 255, -1, math.MinInt, math.MaxInt}
	clients = []string{"", "a", "b", "c", "\x00", "A"}
	nows = []int{math.MinInt, -1, 0, 1, 8, lastTime - 1, lastTime, math.MaxInt}
	for _, l := range ls[:min(len(ls), 10)] {
		hosts = append(hosts, l.Host-1, l.Host, l.Host+1)
		nows = append(nows, l.Until-1, l.Until, l.Until+1)
		if len(l.Client) < 20 {
			clients = append(clients, l.Client, l.Client+"\x00", strings.ToUpper(l.Client), l.Client[:len(l.Client)/2])
		}
	}
	return hosts, clients, nows
}

func TestOrdinaryLeases(t *testing.T) {
	ls := ordinary()
	check(t, ls, true)
	if l, is := Find(ls, 14); l != ls[2] || !is {
		t.Errorf("P13.1: Find of 14: %v, %v", l, is)
	}
	if l, is := Find(ls, 13); l != (api.Lease{}) || is {
		t.Errorf("P13.1: Find of 13: %v, %v", l, is)
	}
	l := api.Lease{Host: 13, State: offered, Client: "d", Until: 8}
	want := []api.Lease{ls[0], ls[1], l, ls[2], ls[3], ls[4], ls[5]}
	if got, e := With(ls, l); !slices.Equal(got, want) || e != api.OK {
		t.Errorf("P13.1: With 13: %v, %d", got, e)
	}
	l.Host = 14
	want = []api.Lease{ls[0], ls[1], l, ls[3], ls[4], ls[5]}
	if got, e := With(ls, l); !slices.Equal(got, want) || e != api.OK {
		t.Errorf("P13.1: With 14: %v, %d", got, e)
	}
	for now, want := range map[int]api.Lease{0: ls[2], 199: ls[2], 200: ls[5], 499: ls[5]} {
		if l, is := Of(ls, "a", now); l != want || !is {
			t.Errorf("P13.2: Of a at %d: %v, %v", now, l, is)
		}
	}
	for _, now := range []int{500, 501, 1000} {
		if l, is := Of(ls, "a", now); l != (api.Lease{}) || is {
			t.Errorf("P13.2: Of a at %d: %v, %v", now, l, is)
		}
	}
	if api.MaxLeases != 8 || api.MaxClient != 16 || api.MaxNow != lastTime || api.ErrTableForm != 1300 ||
		api.StateFree != free || api.StateOffered != offered || api.StateBound != bound || api.StateDeclined != declined {
		t.Error("the numbers of DOC.md are other ones")
	}
}

func TestNoLeases(t *testing.T) {
	for _, ls := range [][]api.Lease{nil, {}, ordinary()[:0]} {
		check(t, ls, true)
		for _, l := range ordinary() {
			if got, e := With(ls, l); !slices.Equal(got, []api.Lease{l}) || e != api.OK {
				t.Errorf("P13.1: With into none: %v, %d", got, e)
			}
		}
		for _, host := range append(wrongHosts, 10) {
			if l, is := Find(ls, host); l != (api.Lease{}) || is {
				t.Errorf("P13.1: Find in none: %v", l)
			}
		}
	}
}

func TestCount(t *testing.T) {
	for n := range 40 {
		for _, host := range []int{2, 100, 255 - n} {
			check(t, row(host, n), n <= 8)
		}
		check(t, row(255-n, n+1), false)
		check(t, row(1, n+1), false)
	}
	for _, n := range []int{256, 256 + 8, 1 << 16, 1<<16 + 8} {
		check(t, row(2, n), false)
	}
}

func TestOrder(t *testing.T) {
	for n := 2; n <= 8; n++ {
		ls := row(50, n)
		for i := range ls {
			for j := range i {
				turned := slices.Clone(ls)
				turned[i], turned[j] = turned[j], turned[i]
				check(t, turned, false)
				twice := slices.Clone(ls)
				twice[i] = twice[j]
				check(t, twice, false)
				// The same Host, of another lease.
				twice[i] = api.Lease{Host: ls[j].Host, State: declined, Until: 9}
				check(t, twice, false)
			}
		}
		slices.Reverse(ls)
		check(t, ls, false)
	}
	check(t, []api.Lease{{Host: 2}, {Host: 254}}, true)
	check(t, []api.Lease{{Host: 254}, {Host: 2}}, false)
	check(t, []api.Lease{{Host: 9}, {Host: 10}}, true)
	check(t, []api.Lease{{Host: 9}, {Host: 9}}, false)
	check(t, []api.Lease{{Host: 10}, {Host: 9}}, false)
	check(t, []api.Lease{{Host: 99}, {Host: 100}, {Host: 128}, {Host: 200}}, true)
}

func TestALeaseThatMayNotBe(t *testing.T) {
	for n := range 8 {
		ls := row(50, n+1)
		for i := range ls {
			for _, wrong := range wrongs(ls[i].Host) {
				spoilt := slices.Clone(ls)
				spoilt[i] = wrong
				check(t, spoilt, false)
			}
			for _, host := range wrongHosts {
				spoilt := slices.Clone(ls)
				spoilt[i].Host = host
				check(t, spoilt, false)
			}
		}
	}
	check(t, []api.Lease{{}}, false)
	// Their Hosts rise, but the first or the last is none.
	for _, host := range wrongHosts {
		if host < 2 {
			check(t, put(ordinary(), 0, api.Lease{Host: host}), false)
		} else {
			check(t, append(ordinary(), api.Lease{Host: host}), false)
		}
	}
}

func TestFind(t *testing.T) {
	for n := range 9 {
		ls := row(60, n)
		for i := range ls {
			ls[i].Until = i + 1
		}
		for host := 50; host < 80; host++ {
			l, is := Find(ls, host)
			if is != (60 <= host && host < 60+n) || is && l != ls[host-60] || !is && l != (api.Lease{}) {
				t.Errorf("P13.1: Find(%s, %d): %v, %v", short(ls...), host, l, is)
			}
		}
	}
}

func TestFindInWhatMayNotBe(t *testing.T) {
	// Several of a Host: the first is told, what it is like and where it stands.
	a, b, c := api.Lease{Host: 9, Until: 1}, api.Lease{Host: 9, State: 77, Client: countedText(40), Name: "A"}, api.Lease{Host: 9, Until: -3}
	for _, first := range []api.Lease{a, b, c} {
		for _, ls := range [][]api.Lease{{first, a, b, c}, {{Host: 10}, first, b, a}, {{Host: 1}, {Host: 8}, {}, first}, append(row(100, 100), first, a, b, c)} {
			if l, is := Find(ls, 9); l != first || !is {
				t.Errorf("P13.1: Find(%s, 9): %s, %v", short(ls...), short(l), is)
			}
		}
	}
	for _, host := range wrongHosts {
		for _, ls := range [][]api.Lease{{{Host: host, Until: 7}}, {{Host: 9}, {Host: host, Until: 7}, {Host: host, Until: 8}}} {
			if l, is := Find(ls, host); l != (api.Lease{Host: host, Until: 7}) || !is {
				t.Errorf("P13.1: Find(%s, %d): %s, %v", short(ls...), host, short(l), is)
			}
		}
	}
	if l, is := Find([]api.Lease{{Until: 5}}, 0); l != (api.Lease{Until: 5}) || !is {
		t.Errorf("P13.1: Find of 0: %v, %v", l, is)
	}
	ls := row(1, 5000)
	for _, host := range []int{0, 1, 2, 2500, 5000, 5001} {
		checkFind(t, ls, host)
	}
}

// kinds are leases of a Host that may be, of each State.
func kinds(host int) []api.Lease {
	return []api.Lease{
		{Host: host},
		{Host: host, Client: countedText(16), Until: lastTime},
		{Host: host, State: offered, Client: "b", Until: 5},
		{Host: host, State: bound, Client: "\x00", Until: 5},
		{Host: host, State: bound, Client: "a", Until: 5, Name: "host-9", Won: true},
		{Host: host, State: declined},
	}
}

func TestWithInEachPlace(t *testing.T) {
	for n := range 9 {
		var ls []api.Lease
		for i := range n {
			ls = append(ls, api.Lease{Host: 40 + 2*i, Until: i})
		}
		for host := 38; host < 60; host++ {
			for _, l := range kinds(host) {
				checkWith(t, ls, l)
			}
			_, has := findPlainly(ls, host)
			_, e := With(ls, api.Lease{Host: host})
			if want := n < 8 || has; (e == api.OK) != want {
				t.Errorf("P13.1: With(%s) of %d: %d", short(ls...), host, e)
			}
		}
	}
}

func TestWithTheSameTwice(t *testing.T) {
	for _, ls := range [][]api.Lease{nil, ordinary(), row(100, 7), row(100, 8)} {
		for host := 2; host < 255; host++ {
			for _, l := range kinds(host) {
				once, e := With(ls, l)
				if e != api.OK {
					continue
				}
				if twice, e := With(once, l); !slices.Equal(twice, once) || e != api.OK {
					t.Errorf("P13.1: With(%s, %s): %s, %d", short(once...), short(l), short(twice...), e)
				}
			}
		}
	}
	ls := ordinary()
	for _, l := range ls {
		if got, e := With(ls, l); !slices.Equal(got, ls) || e != api.OK {
			t.Errorf("P13.1: With what is there: %s, %d", short(got...), e)
		}
	}
}

func TestWithWhatMayNotBe(t *testing.T) {
	for _, ls := range [][]api.Lease{nil, ordinary(), row(100, 7), row(100, 8), row(10, 8)} {
		for _, host := range []int{2, 9, 10, 12, 17, 20, 100, 103, 107, 108, 254} {
			for _, wrong := range wrongs(host) {
				checkWith(t, ls, wrong)
				if got, e := With(ls, wrong); got != nil || e != api.ErrTableForm {
					t.Errorf("P13.1: With(%s, %s): %s, %d", short(ls...), short(wrong), short(got...), e)
				}
			}
		}
		for _, host := range wrongHosts {
			for _, l := range kinds(host) {
				if got, e := With(ls, l); got != nil || e != api.ErrTableForm {
					t.Errorf("P13.1: With(%s, %s): %s, %d", short(ls...), short(l), short(got...), e)
				}
			}
		}
	}
}

// notLeases are leases that may not be.
func notLeases() [][]api.Lease {
	out := [][]api.Lease{row(100, 9), row(100, 20), row(248, 8), row(1, 3), {{Host: 9}, {Host: 9}}, {{Host: 10}, {Host: 9}}, {{Host: 9}, {Host: 10}, {Host: 9}}, {{}}}
	for _, wrong := range wrongs(14) {
		ls := ordinary()
		ls[2] = wrong
		out = append(out, []api.Lease{wrong}, ls)
	}
	return out
}

func TestWithIntoWhatMayNotBe(t *testing.T) {
	for _, ls := range notLeases() {
		check(t, ls, false)
		for _, host := range []int{2, 9, 10, 14, 50, 100, 108, 254} {
			// In the place of the lease that may not be, too: ls are asked first.
			for _, l := range append(kinds(host), wrongs(host)...) {
				if got, e := With(ls, l); got != nil || e != api.ErrTableForm {
					t.Errorf("P13.1: With(%s, %s): %s, %d", short(ls...), short(l), short(got...), e)
				}
			}
		}
	}
}

func TestOfStates(t *testing.T) {
	for _, l := range []api.Lease{
		{State: free}, {State: offered}, {State: bound}, {State: bound, Name: "a"}, {State: bound, Name: "a", Won: true}, {State: declined},
	} {
		for _, until := range []int{0, 1, 2, 100, 1 << 31, 1 << 32, lastTime - 1, lastTime} {
			l.Host, l.Client, l.Until = 30, "c", until
			for now, live := range map[int]bool{until - 1: true, until: false, until + 1: false, math.MinInt: true, math.MaxInt: false, -1 << 33: true, 1 << 41: false} {
				want := live && (l.State == offered || l.State == bound)
				for _, ls := range [][]api.Lease{{l}, {{Host: 29}, l}, {l, {Host: 31, State: bound, Client: "d", Until: lastTime}}} {
					got, is := Of(ls, "c", now)
					if is != want || is && got != l || !is && got != (api.Lease{}) {
						t.Errorf("P13.2: Of(%s, c, %d): %s, %v", short(ls...), now, short(got), is)
					}
				}
			}
		}
	}
}

func TestOfSeveral(t *testing.T) {
	// Those ahead of the first that is Live and lent are passed over.
	for n := range 8 {
		ls := row(70, 8)
		for i := range ls {
			ls[i].Client, ls[i].Until = "c", []int{90, 10, 90}[i%3]
			ls[i].State = []int{free, bound, declined}[i%3]
			if i%3 == 1 && i%2 == 0 {
				ls[i].State = offered
			}
		}
		for state := offered; state <= bound; state++ {
			ls[n].State, ls[n].Until = state, 50+n
			check(t, ls, true)
			if l, is := Of(ls, "c", 20); l != ls[n] || !is {
				t.Errorf("P13.2: Of(%s, c, 20): %s, %v", short(ls...), short(l), is)
			}
			if l, is := Of(ls, "c", 50+n); l != (api.Lease{}) || is {
				t.Errorf("P13.2: Of(%s, c, %d): %s, %v", short(ls...), 50+n, short(l), is)
			}
		}
	}
}

func TestOfClients(t *testing.T) {
	for n := 1; n <= 16; n++ {
		for b := range 256 {
			client := countedText(n - 1)
			client += string([]byte{byte(b)})
			other := client[:n-1] + string([]byte{byte(b) ^ 0x20})
			ls := []api.Lease{{Host: 3, State: bound, Client: other, Until: 9}, {Host: 4, State: bound, Client: client, Until: 9}}
			if l, is := Of(ls, client, 0); l != ls[1] || !is {
				t.Errorf("P13.2: Of(%s, %q, 0): %s, %v", short(ls...), client, short(l), is)
			}
			for _, no := range []string{"", client + "\x00", "\x00" + client, client[1:], client[:n-1], string([]byte{byte(b) ^ 0x41})} {
				if l, is := Of(ls[1:], no, 0); (l != (api.Lease{}) || is) && no != client {
					t.Errorf("P13.2: Of(%s, %q, 0): %s, %v", short(ls[1:]...), no, short(l), is)
				}
			}
		}
	}
	for _, l := range []api.Lease{{Host: 5, Until: 9}, {Host: 5, State: declined, Until: 9}} {
		if got, is := Of([]api.Lease{l}, "", 0); got != (api.Lease{}) || is {
			t.Errorf("P13.2: Of nobody: %v, %v", got, is)
		}
	}
}

func TestOfWhatMayNotBe(t *testing.T) {
	a := api.Lease{Host: 4, State: bound, Client: "a", Until: 200}
	for _, ls := range notLeases() {
		for _, with := range [][]api.Lease{ls, append([]api.Lease{a}, ls...), append(slices.Clone(ls), a)} {
			if mayPlainly(with) {
				continue
			}
			for _, now := range []int{math.MinInt, 0, 99, 199, math.MaxInt} {
				if l, is := Of(with, "a", now); l != (api.Lease{}) || is {
					t.Errorf("P13.2: Of(%s, a, %d): %s, %v", short(with...), now, short(l), is)
				}
			}
		}
	}
}

// anyOf is one of them.
func anyOf[T any](r *rand.Rand, xs ...T) T {
	return xs[r.Intn(len(xs))]
}

// anyLease is one by chance; most of them may be.
func anyLease(r *rand.Rand, host int) api.Lease {
	if r.Intn(25) == 0 {
		return anyOf(r, wrongs(host)...)
	}
	l := api.Lease{Host: host, State: r.Intn(4), Client: anyOf(r, "a", "b", "c", countedText(16)), Until: r.Intn(12)}
	if l.State == bound && r.Intn(2) == 0 {
		l.Name, l.Won = anyOf(r, "a", "b", "a.lan"), r.Intn(2) == 0
	}
	if l.State == free || l.State == declined {
		l.Client = anyOf(r, l.Client, "")
	}
	return l
}

// anyLeases are some by chance; about half of them may be.
func anyLeases(r *rand.Rand) []api.Lease {
	var ls []api.Lease
	host := 2 + r.Intn(30)
	for range anyOf(r, 8, 9, r.Intn(10), r.Intn(8), r.Intn(8)) {
		ls = append(ls, anyLease(r, host))
		host += 1 + r.Intn(3)
	}
	if len(ls) > 1 && r.Intn(6) == 0 {
		i, j := r.Intn(len(ls)), r.Intn(len(ls))
		ls[i], ls[j] = ls[j], ls[i]
	}
	if len(ls) > 1 && r.Intn(8) == 0 {
		i, j := r.Intn(len(ls)), r.Intn(len(ls))
		ls[i].Host = anyOf(r, ls[j].Host, 0, 1, 255, int(r.Uint64()))
	}
	return ls
}

func TestAnyLeases(t *testing.T) {
	const rounds = 30000
	r := rand.New(rand.NewSource(13))
	took, fits := 0, 0
	for range rounds {
		ls := anyLeases(r)
		may := mayPlainly(ls)
		if got := May(ls); got != may {
			t.Errorf("P13.1: May(%s): %v", short(ls...), got)
		}
		for range 3 {
			host := anyOf(r, r.Intn(60), r.Intn(60), r.Intn(60), 1, 255, int(r.Uint64()))
			if len(ls) > 0 && r.Intn(2) == 0 {
				host = anyOf(r, ls...).Host
			}
			l := anyLease(r, host)
			checkWith(t, ls, l)
			checkFind(t, ls, host)
			checkOf(t, ls, anyOf(r, "a", "b", "c", "d", "", l.Client), anyOf(r, -1, r.Intn(14), int(r.Uint64())))
			if _, e := withPlainly(ls, l); e == api.OK {
				fits++
			}
		}
		if may {
			took++
		}
		if t.Failed() {
			return
		}
	}
	if took < rounds/4 || took > rounds*3/4 || fits < rounds/2 || fits > rounds*2 {
		t.Errorf("%d of %d may be, %d of %d with another: these leases ask too little", took, rounds, fits, 3*rounds)
	}
}

// anyFrom makes leases of bytes, five a lease.
func anyFrom(s string) []api.Lease {
	var ls []api.Lease
	for ; len(s) >= 5; s = s[5:] {
		l := api.Lease{Host: int(s[0]), State: int(s[1]) % 5, Client: s[2 : 2+int(s[2])%3], Until: int(s[3])}
		if s[4]&1 == 1 {
			l.Name = "a"
		}
		l.Won = s[4]&2 == 2
		ls = append(ls, l)
	}
	return ls
}

func FuzzTable(f *testing.F) {
	f.Add("", 10, 1, "a", 5, "", false, "a", 0)
	f.Add("\x0a\x01\x01\x09\x00\x0b\x02\x01\x09\x03", 10, 2, "a", 5, "a", true, "\x01", 8)
	f.Add("\x0a\x01\x01\x09\x00\x0a\x02\x01\x09\x03", 10, 2, "a", 5, "a", true, "\x01", 8)
	f.Add("\x0b\x00\x00\x09\x00\x0a\x03\x00\x09\x00", 12, 0, "", -5, "A", false, "", math.MaxInt)
	f.Add(strings.Repeat("\x0a\x00\x00\x00\x00", 9), math.MinInt, 9, "\xff", math.MinInt, "a..b", true, "\xff", math.MinInt)
	f.Fuzz(func(t *testing.T, s string, host int, state int, client string, until int, name string, won bool, whose string, now int) {
		ls := anyFrom(s)
		l := api.Lease{Host: host, State: state, Client: client, Until: until, Name: name, Won: won}
		if May(ls) != mayPlainly(ls) {
			t.Errorf("P13.1: May(%s): %v", short(ls...), May(ls))
		}
		for _, with := range [][]api.Lease{ls, {l}, append(slices.Clone(ls), l), put(ls, 0, l)} {
			checkWith(t, with, l)
			checkFind(t, with, host)
			checkOf(t, with, whose, now)
			checkOf(t, with, client, now)
		}
	})
}

func TestWhatIsHandedInIsNotChanged(t *testing.T) {
	for n := range 9 {
		for have := range n + 1 {
			whole := make([]api.Lease, 0, n)
			for i := range n {
				whole = append(whole, api.Lease{Host: 50 + 2*i, State: bound, Client: "c", Until: 9 + i, Name: "a"})
			}
			old := slices.Clone(whole)
			ls := whole[:have]
			May(ls)
			for host := 45; host < 75; host++ {
				Find(ls, host)
				With(ls, api.Lease{Host: host, State: offered, Client: "new", Until: 3})
				With(ls, api.Lease{Host: host, State: 9})
			}
			for now := range 20 {
				Of(ls, "c", now)
			}
			if !slices.Equal(whole, old) {
				t.Errorf("R4: %s have become %s", short(old...), short(whole...))
			}
		}
	}
	// What is behind a list's end is not read either.
	whole := append(ordinary(), api.Lease{Host: 5, State: 9}, api.Lease{Host: 30, State: bound, Client: "z", Until: 9})
	check(t, whole[:6], true)
	check(t, whole, false)
	if l, is := Find(whole[:6], 30); is {
		t.Errorf("R4: Find has told %v", l)
	}
}

// meet: do two texts share memory.
func meet(a, b string) bool {
	from, to := uintptr(unsafe.Pointer(unsafe.StringData(a))), uintptr(unsafe.Pointer(unsafe.StringData(b)))
	return from < to+uintptr(len(b)) && to < from+uintptr(len(a))
}

// texts are all texts of leases.
func texts(ls ...api.Lease) []string {
	var out []string
	for _, l := range ls {
		out = append(out, l.Client, l.Name)
	}
	return out
}

// checkApart asks that no text of own is in the memory of another one, nor in that of one that was handed in.
func checkApart(t *testing.T, own []string, others []string) {
	t.Helper()
	for i, s := range own {
		for _, other := range append(slices.Clone(others), own[:i]...) {
			if meet(s, other) {
				t.Errorf("R4: %q shares memory with %q", s, other)
			}
		}
	}
}

func TestAnswersAreTheirOwn(t *testing.T) {
	var ls []api.Lease
	text := strings.Clone("abcdefgh")
	for i := range 7 {
		// All of their texts are in one piece of memory.
		ls = append(ls, api.Lease{Host: 50 + i, State: bound, Client: text[:1+i], Until: 9, Name: text[i:], Won: true})
	}
	handed := append(texts(ls...), text)
	for i := range ls {
		found, _ := Find(ls, 50+i)
		again, _ := Find(ls, 50+i)
		of, _ := Of(ls, text[:1+i], 0)
		with, _ := With(ls, ls[i])
		more, _ := With(ls, api.Lease{Host: 40 + 9*i, State: bound, Client: text, Until: 3, Name: text})
		if found != ls[i] || again != ls[i] || of != ls[i] || !slices.Equal(with, ls) {
			t.Fatalf("P13.1: %s, %s, %s, %s", short(found), short(again), short(of), short(with...))
		}
		checkApart(t, texts(append(append([]api.Lease{found, again, of}, with...), more...)...), handed)
	}
	var wrong []api.Lease
	for _, client := range []string{text, strings.Repeat("x", 400)} {
		wrong = append(wrong, api.Lease{Host: 7 + len(wrong), State: 9, Client: client, Name: client})
		l, _ := Find(wrong, wrong[len(wrong)-1].Host)
		checkApart(t, []string{l.Client, l.Name}, []string{client})
	}
}

func TestAnswersChangeNothing(t *testing.T) {
	ls := ordinary()
	old := slices.Clone(ls)
	for _, l := range []api.Lease{ls[2], {Host: 13}, {Host: 2}, {Host: 254}} {
		first, _ := With(ls, l)
		second, _ := With(ls, l)
		want := slices.Clone(second)
		for i := range first {
			first[i] = api.Lease{Host: -1, Client: "turned"}
		}
		_ = append(first[:1], api.Lease{Host: -2})
		if !slices.Equal(second, want) || !slices.Equal(ls, old) {
			t.Errorf("R4: %s and %s have become %s and %s", short(want...), short(old...), short(second...), short(ls...))
		}
	}
}

func TestLongListsAndTextsEnd(t *testing.T) {
	const n = 1 << 20
	ls := make([]api.Lease, n)
	for i := range ls {
		ls[i] = api.Lease{Host: 2 + i, State: bound, Client: "c", Until: 9}
	}
	if got, e := With(ls, api.Lease{Host: 9}); May(ls) || got != nil || e != api.ErrTableForm {
		t.Errorf("P13.1: %d leases may be: %d", n, e)
	}
	if l, is := Of(ls, "c", 0); l != (api.Lease{}) || is {
		t.Errorf("P13.2: %v of %d leases", l, n)
	}
	if l, is := Find(ls, 1+n); l != ls[n-1] || !is {
		t.Errorf("P13.1: Find of the last one of %d: %v, %v", n, l, is)
	}
	if l, is := Find(ls, 0); l != (api.Lease{}) || is {
		t.Errorf("P13.1: Find of none of %d: %v, %v", n, l, is)
	}
	for _, s := range []string{"a", ".", "a.", "\x00"} {
		long := strings.Repeat(s, n)
		l := api.Lease{Host: 9, State: bound, Client: "c", Until: 9, Name: long}
		for _, l := range []api.Lease{l, {Host: 9, Client: long}} {
			if got, e := With(ordinary(), l); got != nil || e != api.ErrTableForm || May([]api.Lease{l}) {
				t.Errorf("P13.1: With a text of %d bytes: %d", len(long), e)
			}
			if got, is := Find([]api.Lease{l}, 9); got != l || !is {
				t.Errorf("P13.1: Find of a text of %d bytes: %v", len(long), is)
			}
			if got, is := Of(ordinary(), long, 0); got != (api.Lease{}) || is {
				t.Errorf("P13.2: Of a client of %d bytes: %v", len(long), is)
			}
		}
	}
}

func TestCallsAtOneTime(t *testing.T) {
	ls := ordinary()
	var all sync.WaitGroup
	for range 8 {
		all.Go(func() {
			for range 20 {
				check(t, ls, true)
				for _, l := range kinds(13) {
					checkWith(t, ls, l)
				}
			}
		})
	}
	all.Wait()
}
