package giver

import (
	"math"
	"slices"
	"strings"
	"testing"

	"pinfold/api"
)

// checkGiven asks what is put, what is known, and that nothing was refused.
func checkGiven(t *testing.T, g *Giver, want string, wantKs []api.Known) {
	t.Helper()
	if !g.Ok() || g.Given() != want || !slices.Equal(g.Known(), wantKs) {
		t.Errorf("%q, %v, ok %v; want %q, %v", g.Given(), g.Known(), g.Ok(), want, wantKs)
	}
}

// checkRefused asks whether nothing more is put, whatever comes.
func checkRefused(t *testing.T, g *Giver) {
	t.Helper()
	if g.Ok() {
		t.Errorf("%q: nothing was refused", g.Given())
	}
	was, known := g.Given(), slices.Clone(g.Known())
	g.Number(1, 1)
	g.Name("z")
	g.Text("text")
	g.Counted(func() { g.Text("more") })
	By(g, func(int, []api.Known, int) (string, []api.Known, api.Errno) { return "by", nil, api.OK }, 3)
	if g.Ok() || g.Given() != was || !slices.Equal(g.Known(), known) {
		t.Errorf("%q, %v, ok %v; want nothing more than %q, %v", g.Given(), g.Known(), g.Ok(), was, known)
	}
}

func TestPartsArePutOneBehindTheOther(t *testing.T) {
	g := From(0, nil)
	checkGiven(t, &g, "", nil)
	g.Number(7, 1)
	g.Number(258, 2)
	g.Number(1<<32-1, 4)
	checkGiven(t, &g, "\x07\x01\x02\xff\xff\xff\xff", nil)
	g.Name("a.b")
	g.Text("")
	g.Text("xyz")
	g.Name("c.b")
	g.Name("")
	checkGiven(t, &g, "\x07\x01\x02\xff\xff\xff\xff\x01a\x01b\x00xyz\x01c\xc0\x09\x00", []api.Known{{Name: "a.b", At: 7}, {Name: "b", At: 9}, {Name: "c.b", At: 15}})
}

func TestPlacesBeginWhereTheFirstByteStands(t *testing.T) {
	room := []api.Known{{Name: "b", At: 3}, {Name: "spare", At: 4}, {Name: "room", At: 5}}
	was := slices.Clone(room)
	g := From(40, room[:1])
	g.Text("..")
	g.Name("a.b")
	checkGiven(t, &g, "..\x01a\xc0\x03", []api.Known{{Name: "b", At: 3}, {Name: "a.b", At: 42}})
	g.Known()[0] = api.Known{Name: "changed", At: 1}
	if !slices.Equal(room, was) {
		t.Errorf("R4: %v", room)
	}
}

func TestWhatIsCounted(t *testing.T) {
	for _, n := range []int{0, 1, 255, 256, 65535} {
		g := From(0, nil)
		g.Text("..")
		g.Counted(func() { g.Text(strings.Repeat("x", n)) })
		g.Text("!")
		checkGiven(t, &g, ".."+string([]byte{byte(n >> 8), byte(n)})+strings.Repeat("x", n)+"!", nil)
	}
	// A name among what is counted is known at its place behind the count.
	g := From(10, nil)
	g.Counted(func() { g.Name("a") })
	g.Name("a")
	checkGiven(t, &g, "\x00\x03\x01a\x00\xc0\x0c", []api.Known{{Name: "a", At: 12}})
	// One counted row within another.
	g = From(0, nil)
	g.Counted(func() {
		g.Text("a")
		g.Counted(func() { g.Text("bc") })
	})
	checkGiven(t, &g, "\x00\x05a\x00\x02bc", nil)
	g = From(0, nil)
	g.Counted(func() { g.Text(strings.Repeat("x", 65536)) })
	checkRefused(t, &g)
	g = From(0, nil)
	g.Counted(func() { g.Name("A") })
	checkRefused(t, &g)
}

func TestWhatIsRefused(t *testing.T) {
	for _, c := range []struct{ x, k int }{{256, 1}, {-1, 1}, {65536, 2}, {1 << 32, 4}, {0, 0}, {0, 3}, {0, 8}, {math.MinInt, 4}, {math.MaxInt, 4}} {
		g := From(0, nil)
		g.Text("..")
		g.Number(c.x, c.k)
		checkRefused(t, &g)
	}
	for _, s := range []string{"A", ".", "a..b", "123456789"} {
		g := From(0, []api.Known{{Name: "b", At: 3}})
		g.Name("c.b")
		g.Name(s)
		checkRefused(t, &g)
	}
	for _, at := range []int{math.MinInt, -1, 65536, math.MaxInt} {
		g := From(at, nil)
		g.Name("a")
		checkRefused(t, &g)
	}
	g := From(65533, nil)
	g.Text("..")
	g.Name("a")
	checkGiven(t, &g, "..\x01a\x00", nil)
	g.Name("a")
	checkRefused(t, &g)
	g = From(0, []api.Known{{Name: "", At: 3}})
	g.Name("a")
	checkRefused(t, &g)
}

func TestByPutsWhatItIsHanded(t *testing.T) {
	g := From(5, []api.Known{{Name: "b", At: 3}})
	twice := func(at int, ks []api.Known, x string) (string, []api.Known, api.Errno) {
		if x == "" {
			return "none", nil, api.ErrRrForm
		}
		return x + x, append(slices.Clone(ks), api.Known{Name: x, At: at}), api.OK
	}
	By(&g, twice, "x")
	By(&g, twice, "yz")
	checkGiven(t, &g, "xxyzyz", []api.Known{{Name: "b", At: 3}, {Name: "x", At: 5}, {Name: "yz", At: 7}})
	By(&g, twice, "")
	checkRefused(t, &g)
}
