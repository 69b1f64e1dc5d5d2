package serial

import (
	"math"
	"math/rand"
	"sync"
	"testing"

	"pinfold/api"
)

const (
	// round is where numbers begin again, written in full as the chapter writes it.
	round = 4294967296
	last  = 4294967295
	apart = 2147483648
)

func checkOrder(t *testing.T, a, b int, want int) {
	t.Helper()
	if got, e := Order(a, b); got != want || e != api.OK {
		t.Errorf("P10.1: Order(%d, %d): %d, %d; want %d", a, b, got, e, want)
	}
}

func checkNoOrder(t *testing.T, a, b int) {
	t.Helper()
	if got, e := Order(a, b); got != 0 || e != api.ErrSerialForm {
		t.Errorf("P10.1: Order(%d, %d): %d, %d; want %d and nothing beside", a, b, got, e, api.ErrSerialForm)
	}
}

func checkNext(t *testing.T, a int, want int) {
	t.Helper()
	if got, e := Next(a); got != want || e != api.OK {
		t.Errorf("P10.1: Next(%d): %d, %d; want %d", a, got, e, want)
	}
}

func checkNoNext(t *testing.T, a int) {
	t.Helper()
	if got, e := Next(a); got != 0 || e != api.ErrSerialForm {
		t.Errorf("P10.1: Next(%d): %d, %d; want %d and nothing beside", a, got, e, api.ErrSerialForm)
	}
}

// serials may be; the others may not.
var (
	serials = []int{
		0, 1, 2, 127, 128, 255, 256, 65535, 65536, 1<<24 - 1, 1 << 24,
		apart - 2, apart - 1, apart, apart + 1, apart + 2, 3 << 30, 0x12345678, last - 65535, last - 2, last - 1, last,
	}
	others = []int{
		-1, -2, -255, -256, -apart - 1, -apart, -apart + 1, -last, -round, -round - 1, -round + 1, -1 << 40,
		math.MinInt, math.MinInt + 1, math.MinInt + last, math.MinInt + round, -1 << 62,
		round, round + 1, round + 2, round + apart, round + last, 2 * round, 2*round + 1, 1 << 40, 1 << 60, 1 << 62,
		math.MaxInt, math.MaxInt - 1, math.MaxInt - last, math.MaxInt - round,
	}
)

func TestOrdinaryNumbers(t *testing.T) {
	checkOrder(t, 7, 7, api.OrderSame)
	checkOrder(t, 7, 8, api.OrderBefore)
	checkOrder(t, 8, 7, api.OrderAfter)
	checkOrder(t, 7, 1000000, api.OrderBefore)
	checkOrder(t, 1000000, 7, api.OrderAfter)
	checkOrder(t, 7, 7+apart, api.OrderUnknown)
	checkNext(t, 7, 8)
	checkNext(t, 2026111900, 2026111901)
	if api.OrderSame != 0 || api.OrderBefore != 1 || api.OrderAfter != 2 || api.OrderUnknown != 3 || api.ErrSerialForm != 1000 {
		t.Error("the numbers of DOC.md are other ones")
	}
}

func TestOrderAtTheEnds(t *testing.T) {
	for _, c := range []struct{ a, b, want int }{
		{0, 0, api.OrderSame},
		{1, 1, api.OrderSame},
		{last, last, api.OrderSame},
		{0, 1, api.OrderBefore},
		{1, 0, api.OrderAfter},
		{last, 0, api.OrderBefore},
		{0, last, api.OrderAfter},
		{last, 1, api.OrderBefore},
		{1, last, api.OrderAfter},
		{last - 1, last, api.OrderBefore},
		{last, last - 1, api.OrderAfter},
		{0, apart - 1, api.OrderBefore},
		{apart - 1, 0, api.OrderAfter},
		{0, apart, api.OrderUnknown},
		{apart, 0, api.OrderUnknown},
		{0, apart + 1, api.OrderAfter},
		{apart + 1, 0, api.OrderBefore},
		{1, apart, api.OrderBefore},
		{apart, 1, api.OrderAfter},
		{1, apart + 1, api.OrderUnknown},
		{apart + 1, 1, api.OrderUnknown},
		{last, apart - 1, api.OrderUnknown},
		{apart - 1, last, api.OrderUnknown},
		{last, apart - 2, api.OrderBefore},
		{apart - 2, last, api.OrderAfter},
		{last, apart, api.OrderAfter},
		{apart, last, api.OrderBefore},
	} {
		checkOrder(t, c.a, c.b, c.want)
	}
}

// behind are all places of b that the chapter tells apart, and the order of a and b there.
var behind = []struct{ by, want, back int }{
	{0, api.OrderSame, api.OrderSame},
	{1, api.OrderBefore, api.OrderAfter},
	{2, api.OrderBefore, api.OrderAfter},
	{2147483646, api.OrderBefore, api.OrderAfter},
	{2147483647, api.OrderBefore, api.OrderAfter},
	{2147483648, api.OrderUnknown, api.OrderUnknown},
	{2147483649, api.OrderAfter, api.OrderBefore},
	{2147483650, api.OrderAfter, api.OrderBefore},
	{4294967294, api.OrderAfter, api.OrderBefore},
	{4294967295, api.OrderAfter, api.OrderBefore},
}

func TestOrderOfNumbersSoFarBehind(t *testing.T) {
	straight, gone := make([]int, len(behind)), make([]int, len(behind))
	for _, a := range serials {
		for i, c := range behind {
			b := a + c.by
			if b < round {
				straight[i]++
			} else {
				b -= round
				gone[i]++
			}
			checkOrder(t, a, b, c.want)
			checkOrder(t, b, a, c.back)
		}
	}
	for i, c := range behind {
		if straight[i] == 0 || gone[i] == 0 && c.by != 0 {
			t.Errorf("behind by %d: %d straight, %d gone round", c.by, straight[i], gone[i])
		}
	}
}

func TestOrderRefusesOtherNumbers(t *testing.T) {
	for _, x := range others {
		for _, y := range serials {
			checkNoOrder(t, x, y)
			checkNoOrder(t, y, x)
		}
		for _, y := range others {
			checkNoOrder(t, x, y)
		}
	}
	for i := 32; i < 63; i++ {
		for _, x := range []int{1 << i, -1 << i, 1<<i | 7, -1<<i | 7} {
			checkNoOrder(t, x, 7)
			checkNoOrder(t, 7, x)
			checkNoOrder(t, x, x)
		}
	}
}

func TestNextAtTheEnds(t *testing.T) {
	checkNext(t, 0, 1)
	checkNext(t, 1, 2)
	checkNext(t, 255, 256)
	checkNext(t, 65535, 65536)
	checkNext(t, 2147483646, 2147483647)
	checkNext(t, 2147483647, 2147483648)
	checkNext(t, 2147483648, 2147483649)
	checkNext(t, 4294967294, 4294967295)
	checkNext(t, 4294967295, 0)
	checkNoNext(t, -1)
	checkNoNext(t, 4294967296)
}

func TestNextRefusesOtherNumbers(t *testing.T) {
	for _, x := range others {
		checkNoNext(t, x)
	}
	for i := 32; i < 63; i++ {
		for _, x := range []int{1 << i, -1 << i, 1<<i | 7, -1<<i | 7, 1<<i - 1 + 1<<32, -1<<i - 1} {
			checkNoNext(t, x)
		}
	}
}

func TestANumberIsBeforeItsNext(t *testing.T) {
	// The step is odd, so that the lowest bytes change along the way too.
	for a := 0; a < round; a += 65599 * 3 {
		next, e := Next(a)
		if e != api.OK {
			t.Fatalf("P10.1: Next(%d): %d", a, e)
		}
		checkOrder(t, a, next, api.OrderBefore)
		checkOrder(t, next, a, api.OrderAfter)
	}
}

func TestNextGoesAllTheWayRound(t *testing.T) {
	a := last - 1000
	for range 1001 {
		a, _ = Next(a)
	}
	if a != 0 {
		t.Errorf("P10.1: %d; want 0", a)
	}
	for range 1000 {
		a, _ = Next(a)
	}
	if a != 1000 {
		t.Errorf("P10.1: %d; want 1000", a)
	}
}

// orderedPlainly reads the chapter a second time, by whole numbers that do not go round.
func orderedPlainly(a, b int) (int, bool) {
	if min(a, b) < 0 || max(a, b) > 4294967295 {
		return 0, false
	}
	if a == b {
		return api.OrderSame, true
	}
	switch less := ((b-a)%round + round) % round; {
	case less < 2147483648:
		return api.OrderBefore, true
	case less == 2147483648:
		return api.OrderUnknown, true
	}
	return api.OrderAfter, true
}

// anyNumber is one by chance; mostly it may be.
func anyNumber(r *rand.Rand) int {
	switch r.Intn(10) {
	case 0:
		return []int{r.Int(), -r.Int(), others[r.Intn(len(others))]}[r.Intn(3)]
	case 1, 2, 3:
		return serials[r.Intn(len(serials))]
	default:
		return r.Intn(round)
	}
}

// near is a number by chance, or one that stands to a at an edge.
func near(r *rand.Rand, a int) int {
	if a < 0 || a >= round || r.Intn(2) == 0 {
		return anyNumber(r)
	}
	return (a + behind[r.Intn(len(behind))].by) % round
}

func TestAnyNumbers(t *testing.T) {
	r := rand.New(rand.NewSource(10))
	const rounds = 100000
	took, seen := 0, map[int]int{}
	for range rounds {
		a := anyNumber(r)
		b := near(r, a)
		if a >= 0 && a < round {
			checkNext(t, a, (a+1)%round)
		} else {
			checkNoNext(t, a)
		}
		want, is := orderedPlainly(a, b)
		if !is {
			checkNoOrder(t, a, b)
			continue
		}
		took++
		seen[want]++
		checkOrder(t, a, b, want)
	}
	if took < rounds/2 || took > rounds*19/20 {
		t.Errorf("%d of %d are taken", took, rounds)
	}
	for _, order := range []int{api.OrderSame, api.OrderBefore, api.OrderAfter, api.OrderUnknown} {
		if seen[order] < rounds/50 {
			t.Errorf("%d of %d are of order %d", seen[order], rounds, order)
		}
	}
}

func TestCallsAtOneTime(t *testing.T) {
	var all sync.WaitGroup
	for n := range 8 {
		all.Go(func() {
			for i := range 500 {
				checkOrder(t, last-i, n, api.OrderBefore)
				checkOrder(t, n, last-i, api.OrderAfter)
				checkNoOrder(t, -1-i, n)
				checkNext(t, n*1000+i, n*1000+i+1)
				checkNoNext(t, round+i)
			}
		})
	}
	all.Wait()
}
