package name

import (
	"math/rand"
	"regexp"
	"slices"
	"strings"
	"sync"
	"testing"

	"pinfold/api"
)

// shape is the chapter's sentence of which names may be, written anew: 8 labels of 8 bytes at most.
var shape = regexp.MustCompile(`\A([a-z0-9-]{1,8}(\.[a-z0-9-]{1,8}){0,7})?\z`)

// fine are names that may be, other than the root, with their labels.
var fine = []struct {
	s      string
	labels []string
}{
	{"a", []string{"a"}},
	{"z", []string{"z"}},
	{"0", []string{"0"}},
	{"9", []string{"9"}},
	{"-", []string{"-"}},
	{"--", []string{"--"}},
	{"abcdefgh", []string{"abcdefgh"}},
	{"host-1", []string{"host-1"}},
	{"a.b", []string{"a", "b"}},
	{"a.a", []string{"a", "a"}},
	{"b.a", []string{"b", "a"}},
	{"-a.a-.-", []string{"-a", "a-", "-"}},
	{"10.0.0.1", []string{"10", "0", "0", "1"}},
	{"a.bb.ccc.dddd", []string{"a", "bb", "ccc", "dddd"}},
	{"a.b.c.d.e.f.g.h", []string{"a", "b", "c", "d", "e", "f", "g", "h"}},
	{"12345678.abcdefgh", []string{"12345678", "abcdefgh"}},
}

// wrong are texts that may not be names.
var wrong = []string{
	".", "..", "...",
	".a", "a.", "a..", "..a", "a..b", ".a.b", "a.b.", "a.b..c", "a..b.c", ".a.", "........",
	"123456789", "123456789.a", "a.123456789", "a.123456789.b", "12345678.123456789",
	"a.b.c.d.e.f.g.h.i", "a.b.c.d.e.f.g.h.", ".a.b.c.d.e.f.g.h", "a.b.c.d..e.f.g",
	"A", "Z", "aB", "Ab", "a.B", "A.b", "aBc.d",
	" ", "a b", " a", "a ", "a. b", "a .b",
	"a_b", "a/b", "a:b", "a@b", "a`b", "a{b", "a,b", "a;b", "a*", "a\\.b", "a[b",
	"\x00", "a\x00", "\x00a", "a.\x00", "a\n", "\na", "a\t", "\r",
	"\x7f", "\x80", "\xff", "a\xff", "\xff\xfe", "a.\xc3",
	"é", "a.é", "ａ", "١", "a。b", "ı", "\u212a",
}

func checkMay(t *testing.T, s string, want bool) {
	t.Helper()
	if got := May(s); got != want {
		t.Errorf("P2.1: May(%q): %v; want %v", s, got, want)
	}
}

func checkLabels(t *testing.T, s string, want []string) {
	t.Helper()
	if got := Labels(s); !slices.Equal(got, want) {
		t.Errorf("P2.2: Labels(%q): %q; want %q", s, got, want)
	}
}

func checkUnder(t *testing.T, s string, zone string, want bool) {
	t.Helper()
	if got := Under(s, zone); got != want {
		t.Errorf("P2.2: Under(%q, %q): %v; want %v", s, zone, got, want)
	}
}

func checkFold(t *testing.T, s string, want string) {
	t.Helper()
	if got := Fold(s); got != want {
		t.Errorf("P2.1: Fold(%q): %q; want %q", s, got, want)
	}
}

// row is n labels of k bytes each.
func row(n int, k int) string {
	labels := make([]string, n)
	for i := range labels {
		labels[i] = strings.Repeat(string(rune('a'+i%26)), k)
	}
	return strings.Join(labels, ".")
}

func TestTheRootMayBeAndHasNoLabels(t *testing.T) {
	checkMay(t, "", true)
	checkLabels(t, "", nil)
	checkFold(t, "", "")
}

func TestNamesThatMayBe(t *testing.T) {
	for _, c := range fine {
		checkMay(t, c.s, true)
		checkLabels(t, c.s, c.labels)
	}
}

func TestNamesThatMayNotBe(t *testing.T) {
	for _, s := range wrong {
		checkMay(t, s, false)
		checkLabels(t, s, nil)
	}
}

func TestHowManyLabelsOfHowManyBytes(t *testing.T) {
	for n := 1; n <= api.MaxLabels+2; n++ {
		for k := 1; k <= api.MaxLabel+2; k++ {
			s := row(n, k)
			want := n <= api.MaxLabels && k <= api.MaxLabel
			checkMay(t, s, want)
			if want {
				checkLabels(t, s, strings.Split(s, "."))
			} else {
				checkLabels(t, s, nil)
			}
		}
	}
}

func TestOneLabelTooLongOrEmptyAtEachPlace(t *testing.T) {
	for n := 1; n <= api.MaxLabels; n++ {
		for i := range n {
			for _, label := range []string{"", "123456789", strings.Repeat("x", 1000)} {
				labels := strings.Split(row(n, 2), ".")
				labels[i] = label
				s := strings.Join(labels, ".")
				if s == "" {
					continue
				}
				checkMay(t, s, false)
				checkLabels(t, s, nil)
			}
			labels := strings.Split(row(n, 2), ".")
			labels[i] = "12345678"
			checkMay(t, strings.Join(labels, "."), true)
			checkLabels(t, strings.Join(labels, "."), labels)
		}
	}
}

func TestEachByteAtEachPlaceOfALabel(t *testing.T) {
	for c := range 256 {
		want := strings.IndexByte("abcdefghijklmnopqrstuvwxyz0123456789-", byte(c)) >= 0
		for k := 1; k <= api.MaxLabel; k++ {
			for i := range k {
				label := []byte(strings.Repeat("m", k))
				label[i] = byte(c)
				// A point would cut the label, and is tested elsewhere.
				if c == '.' {
					continue
				}
				for _, s := range []string{string(label), "a." + string(label), string(label) + ".a", "a." + string(label) + ".b"} {
					checkMay(t, s, want)
					if !want {
						checkLabels(t, s, nil)
					}
				}
			}
		}
	}
}

func TestMayAnswersOfAnyText(t *testing.T) {
	r := rand.New(rand.NewSource(2))
	const letters = "az09-.....AZ_ \x00\xff/:`{"
	for range 20000 {
		// Most of the time only what may stand in a name, so that many of them may be.
		some := letters[:7]
		if r.Intn(3) == 0 {
			some = letters
		}
		b := make([]byte, r.Intn(24))
		for i := range b {
			b[i] = some[r.Intn(len(some))]
		}
		s := string(b)
		want := shape.MatchString(s)
		checkMay(t, s, want)
		if want && s != "" {
			checkLabels(t, s, strings.Split(s, "."))
		} else {
			checkLabels(t, s, nil)
		}
	}
}

func TestFoldTellsSmallLetters(t *testing.T) {
	for _, c := range []struct {
		s, want string
	}{
		{"a", "a"},
		{"A", "a"},
		{"Z", "z"},
		{"ABCDEFGHIJKLMNOPQRSTUVWXYZ", "abcdefghijklmnopqrstuvwxyz"},
		{"abcdefghijklmnopqrstuvwxyz", "abcdefghijklmnopqrstuvwxyz"},
		{"Host-1.Example", "host-1.example"},
		{"A..B.", "a..b."},
		{"@[`{", "@[`{"},
		{"\xc1A\xff", "\xc1a\xff"},
		{"É A", "É a"},
		{"\u212a", "\u212a"},
		{"İI", "İi"},
		{"\x00A\x00", "\x00a\x00"},
		{strings.Repeat("Xy", 500), strings.Repeat("xy", 500)},
	} {
		checkFold(t, c.s, c.want)
	}
}

func TestFoldOfEachByte(t *testing.T) {
	for c := range 256 {
		want := byte(c)
		if i := strings.IndexByte("ABCDEFGHIJKLMNOPQRSTUVWXYZ", byte(c)); i >= 0 {
			want = "abcdefghijklmnopqrstuvwxyz"[i]
		}
		one, folded := string([]byte{byte(c)}), string([]byte{want})
		checkFold(t, one, folded)
		checkFold(t, "Q"+one+"q"+one, "q"+folded+"q"+folded)
		checkFold(t, folded, folded)
	}
}

func TestUnder(t *testing.T) {
	for _, c := range []struct {
		s, zone string
		want    bool
	}{
		{"", "", true},
		{"a", "", true},
		{"a.b.c", "", true},
		{"a.b.c", "c", true},
		{"a.b.c", "b.c", true},
		{"a.b.c", "a.b.c", true},
		{"a.a", "a", true},
		{"a.b.a.b", "a.b", true},
		{"a.b.a.b", "b.a.b", true},
		{"abcdefgh.b", "b", true},
		{"-.b", "b", true},
		{"", "a", false},
		{"a", "a.a", false},
		{"b.c", "a.b.c", false},
		{"c", "b.c", false},
		{"a.b.c", "a", false},
		{"a.b.c", "b", false},
		{"a.b.c", "a.b", false},
		{"a.b.c", "a.c", false},
		{"a.b.c", "c.b", false},
		{"a.b.c", "d", false},
		{"a.b.c", "a.b.d", false},
		{"a.b.c", "d.b.c", false},
		{"ab", "b", false},
		{"a.bb", "b", false},
		{"a.bb.c", "b.c", false},
		{"a.b-c", "c", false},
		{"a.b", "bb", false},
		{"a.b", "ab", false},
		{"ab", "a.b", false},
	} {
		checkUnder(t, c.s, c.zone, c.want)
	}
}

func TestUnderAtTheMostLabels(t *testing.T) {
	s := row(api.MaxLabels, api.MaxLabel)
	labels := strings.Split(s, ".")
	for i := range len(labels) + 1 {
		checkUnder(t, s, strings.Join(labels[i:], "."), true)
		if i > 0 {
			checkUnder(t, strings.Join(labels[i:], "."), s, false)
			checkUnder(t, s, strings.Join(labels[:len(labels)-i], "."), i == len(labels))
		}
	}
	long := row(api.MaxLabels+1, 1)
	checkUnder(t, long, "", false)
	checkUnder(t, long, long, false)
	checkUnder(t, long, long[2:], false)
}

func TestUnderIsFalseOfWhatMayNotBe(t *testing.T) {
	for _, s := range wrong {
		checkUnder(t, s, "", false)
		checkUnder(t, "", s, false)
		checkUnder(t, s, s, false)
		checkUnder(t, "a", s, false)
		checkUnder(t, s, "a", false)
		checkUnder(t, "a."+s, s, false)
		checkUnder(t, s+".b", "b", false)
	}
	checkUnder(t, "a..b", "b", false)
	checkUnder(t, "A.b", "b", false)
	checkUnder(t, "a.B", "b", false)
	checkUnder(t, "a.b", "B", false)
	checkUnder(t, "a.b", "b.", false)
	checkUnder(t, "a.b", ".b", false)
	checkUnder(t, "a.b", ".", false)
	checkUnder(t, ".b", "b", false)
}

func TestUnderHoldsOfJustTheEndsOfItsLabels(t *testing.T) {
	var all []string
	for _, c := range fine {
		all = append(all, c.s)
	}
	all = append(all, "", "c", "b.c", "a.b.c", "ab", "abb", "b.b", "bb", "bb.b", "h", "g.h", "dddd", "ccc.dddd")
	for _, s := range all {
		ends := map[string]bool{"": true}
		labels := Labels(s)
		for i := range labels {
			ends[strings.Join(labels[i:], ".")] = true
		}
		for _, zone := range all {
			checkUnder(t, s, zone, ends[zone])
		}
	}
}

func TestAnswersShareNoMemory(t *testing.T) {
	const s = "a.b.c"
	one, two := Labels(s), Labels(s)
	one = append(one[:1], "x", "y", "z")
	if !slices.Equal(two, []string{"a", "b", "c"}) {
		t.Errorf("R4: %q behind %q", two, one)
	}
	checkLabels(t, s, []string{"a", "b", "c"})
}

func TestLongTextsEnd(t *testing.T) {
	const size = 1 << 20
	for _, s := range []string{
		strings.Repeat("a", size),
		strings.Repeat(".", size),
		strings.Repeat("a.", size/2),
		strings.Repeat("a.", size/2) + "a",
		strings.Repeat("\xff", size),
	} {
		if May(s) || Labels(s) != nil || Under(s, "") || Under("", s) || Under(s, s) {
			t.Errorf("P2.1, P2.2: a text of %d bytes, %q..., may not be", len(s), s[:4])
		}
		if Fold(s) != s {
			t.Errorf("P2.1: Fold of a text of %d bytes, %q...", len(s), s[:4])
		}
	}
}

func TestManyMayCallAtOneTime(t *testing.T) {
	var all sync.WaitGroup
	for n := range 8 {
		all.Go(func() {
			s := row(n+1, n+1)
			for range 200 {
				if !May(s) || len(Labels(s)) != n+1 || !Under(s, s) || Fold(strings.ToUpper(s)) != s {
					t.Errorf("R5: %q", s)
				}
			}
		})
	}
	all.Wait()
}
