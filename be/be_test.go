package be

import (
	"math"
	"strings"
	"sync"
	"testing"

	"pinfold/api"
)

// otherWidths are counts of bytes that no number takes.
var otherWidths = []int{math.MinInt, math.MinInt + 1, -8, -4, -2, -1, 0, 3, 5, 6, 7, 8, 9, 16, 32, 64, 256 + 1, 1<<32 + 4, math.MaxInt}

func checkPut(t *testing.T, x int, k int, want string, wantErr api.Errno) {
	t.Helper()
	if s, e := Put(x, k); s != want || e != wantErr {
		t.Errorf("P1.1: Put(%d, %d): %q, %d; want %q, %d", x, k, s, e, want, wantErr)
	}
}

func checkGet(t *testing.T, s string, at int, k int, want int, wantErr api.Errno) {
	t.Helper()
	if x, e := Get(s, at, k); x != want || e != wantErr {
		t.Errorf("P1.2: Get(%q, %d, %d): %d, %d; want %d, %d", s, at, k, x, e, want, wantErr)
	}
}

func TestPutTellsTheHighestByteFirst(t *testing.T) {
	for _, c := range []struct {
		x, k int
		want string
	}{
		{0, 1, "\x00"},
		{1, 1, "\x01"},
		{127, 1, "\x7f"},
		{128, 1, "\x80"},
		{255, 1, "\xff"},
		{0, 2, "\x00\x00"},
		{1, 2, "\x00\x01"},
		{255, 2, "\x00\xff"},
		{256, 2, "\x01\x00"},
		{0x1234, 2, "\x12\x34"},
		{0x8000, 2, "\x80\x00"},
		{65535, 2, "\xff\xff"},
		{0, 4, "\x00\x00\x00\x00"},
		{1, 4, "\x00\x00\x00\x01"},
		{65536, 4, "\x00\x01\x00\x00"},
		{0x12345678, 4, "\x12\x34\x56\x78"},
		{0x80000000, 4, "\x80\x00\x00\x00"},
		{1<<32 - 1, 4, "\xff\xff\xff\xff"},
		{api.Cookie, 4, "\x63\x82\x53\x63"},
		{api.Server, 4, "\x0a\x00\x00\x01"},
		{api.Mask, 4, "\xff\xff\xff\x00"},
	} {
		checkPut(t, c.x, c.k, c.want, api.OK)
	}
}

func TestPutRefusesNumbersOutsideTheWidth(t *testing.T) {
	for _, k := range []int{1, 2, 4} {
		beyond := 1 << (8 * k)
		for _, x := range []int{-1, -2, -beyond, -beyond - 1, math.MinInt, math.MinInt + 1, beyond, beyond + 1, 2 * beyond, 1 << 40, 1 << 62, math.MaxInt} {
			checkPut(t, x, k, "", api.ErrBeForm)
		}
	}
}

func TestPutRefusesOtherWidths(t *testing.T) {
	for _, k := range otherWidths {
		for _, x := range []int{0, 1, 255, 256, -1, math.MinInt, math.MaxInt} {
			checkPut(t, x, k, "", api.ErrBeForm)
		}
	}
}

func TestGetReadsTheHighestByteFirst(t *testing.T) {
	const s = "\x00\x01\x80\xff\xff\xff\xff\x12\x34\x56\x78"
	for _, c := range []struct {
		at, k, want int
	}{
		{0, 1, 0},
		{1, 1, 1},
		{2, 1, 128},
		{3, 1, 255},
		{10, 1, 0x78},
		{0, 2, 1},
		{1, 2, 0x0180},
		{2, 2, 0x80ff},
		{3, 2, 65535},
		{9, 2, 0x5678},
		{0, 4, 0x000180ff},
		{2, 4, 0x80ffffff},
		{3, 4, 1<<32 - 1},
		{7, 4, 0x12345678},
	} {
		checkGet(t, s, c.at, c.k, c.want, api.OK)
	}
}

func TestGetTakesAnyBytes(t *testing.T) {
	for b := range 256 {
		one := string([]byte{byte(b)})
		checkGet(t, one, 0, 1, b, api.OK)
		checkGet(t, "\x00"+one, 0, 2, b, api.OK)
		checkGet(t, one+"\x00\x00\x00", 0, 4, b<<24, api.OK)
	}
}

func TestGetTellsTheEnd(t *testing.T) {
	for _, k := range []int{1, 2, 4} {
		for n := range 10 {
			s := strings.Repeat("\xff", n)
			for at := range n + 3 {
				if at+k <= n {
					checkGet(t, s, at, k, 1<<(8*k)-1, api.OK)
				} else {
					checkGet(t, s, at, k, 0, api.ErrBeEnd)
				}
			}
			for _, at := range []int{1 << 31, 1 << 32, 1 << 62, math.MaxInt - 4, math.MaxInt - 1, math.MaxInt} {
				checkGet(t, s, at, k, 0, api.ErrBeEnd)
			}
		}
	}
}

func TestGetRefusesPlacesBelowZero(t *testing.T) {
	for _, k := range []int{1, 2, 4} {
		for _, at := range []int{-1, -2, -4, -1 << 32, math.MinInt, math.MinInt + 1} {
			checkGet(t, "abcdefgh", at, k, 0, api.ErrBeForm)
		}
	}
}

func TestGetRefusesOtherWidths(t *testing.T) {
	for _, k := range otherWidths {
		for _, at := range []int{0, 1, 8} {
			checkGet(t, strings.Repeat("a", 300), at, k, 0, api.ErrBeForm)
		}
	}
}

func TestGetNamesTheFormAheadOfTheEnd(t *testing.T) {
	for _, k := range otherWidths {
		for _, at := range []int{math.MinInt, -1, 0, 4, 5, math.MaxInt} {
			checkGet(t, "", at, k, 0, api.ErrBeForm)
			checkGet(t, "abcd", at, k, 0, api.ErrBeForm)
		}
	}
	for _, k := range []int{1, 2, 4} {
		for _, at := range []int{-1, math.MinInt} {
			checkGet(t, "", at, k, 0, api.ErrBeForm)
		}
	}
}

func TestWhatIsPutIsGotAgain(t *testing.T) {
	for x := range 256 {
		roundTrip(t, x, 1)
	}
	for x := range 65536 {
		roundTrip(t, x, 2)
	}
	// The step is odd and greater than 2^16, so that all four bytes change along the way.
	for x := 0; x < 1<<32; x += 65599 {
		roundTrip(t, x, 4)
	}
	for i := range 32 {
		roundTrip(t, 1<<i, 4)
		roundTrip(t, 1<<32-1-1<<i, 4)
	}
}

func roundTrip(t *testing.T, x int, k int) {
	t.Helper()
	s, e := Put(x, k)
	if len(s) != k || e != api.OK {
		t.Fatalf("P1.1: Put(%d, %d): %q, %d", x, k, s, e)
	}
	for _, ahead := range []string{"", "\xff", "abc"} {
		text := ahead + s + "\xff"
		if got, e := Get(text, len(ahead), k); got != x || e != api.OK {
			t.Fatalf("P1.2: Get(%q, %d, %d): %d, %d; want %d", text, len(ahead), k, got, e, x)
		}
	}
}

func TestManyMayCallAtOneTime(t *testing.T) {
	var all sync.WaitGroup
	for n := range 8 {
		all.Go(func() {
			for i := range 500 {
				x := n<<24 | i
				s, e := Put(x, 4)
				got, e2 := Get(s, 0, 4)
				if e != api.OK || e2 != api.OK || got != x {
					t.Errorf("R5: %d: %q, %d; %d, %d", x, s, e, got, e2)
				}
			}
		})
	}
	all.Wait()
}
