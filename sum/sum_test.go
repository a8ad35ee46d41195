package sum_test

import (
	"fmt"
	"math/rand"
	"slices"
	"strings"
	"sync"
	"sync/atomic"
	"testing"
	"unsafe"

	"minuet/api"
	"minuet/sum"
)

// model is the sum, counted another way, without a product: from behind, each byte is in as many rests of the text as its
// place and 1.
func model(s string) int {
	all, rest := 0, 0
	for i := len(s) - 1; i >= 0; i-- {
		rest = (rest + int(s[i])) % api.SumPrime
		all = (all + rest) % api.SumPrime
	}
	return all
}

// tells: is this a text's sum?
func tells(t *testing.T, name string, s string, want int) {
	t.Helper()
	if got := sum.Sum(s); got != want {
		t.Errorf("P16.1: %s: %d, want %d", name, got, want)
	}
}

// chance is a text of n bytes by chance.
func chance(r *rand.Rand, n int) string {
	b := make([]byte, n)
	for i := range b {
		b[i] = byte(r.Intn(256))
	}
	return string(b)
}

// alone is a text of n bytes, all of them 0 but one.
func alone(n int, at int, c byte) string {
	b := make([]byte, n)
	b[at] = c
	return string(b)
}

// around is a place, one ahead of it and one behind it.
func around(at int) []int { return []int{at - 1, at, at + 1} }

// P16.1, by hand.

func TestSumsWrittenOut(t *testing.T) {
	for _, row := range []struct {
		s    string
		want int
	}{
		{"", 0},
		{"\x00", 0},
		{"\x01", 1},
		{"\xff", 255},
		{"\x00\x00\x00", 0},
		{"\x01\x00\x00", 1},
		{"\x00\x01\x00", 2},
		{"\x00\x00\x01", 3},
		{"\x01\x01\x01", 6},
		{"\xff\xff\xff", 1530},
		{"a", 97},
		{"ab", 97 + 2*98},
		{"ba", 98 + 2*97},
		{"abc", 97 + 2*98 + 3*99},
		{"abc\x00", 97 + 2*98 + 3*99},
		{"\x00abc", 2*97 + 3*98 + 4*99},
		{"minuet", 109 + 2*105 + 3*110 + 4*117 + 5*101 + 6*116},
		{"P0,0,0,0,", 80 + 2*48 + 3*44 + 4*48 + 5*44 + 6*48 + 7*44 + 8*48 + 9*44},
		// Bytes are counted, not runes, whether they are runes or not.
		{"é", 195 + 2*169},
		{"\xff\xfe", 255 + 2*254},
		{"\x80", 128},
		{"\ufffd", 239 + 2*191 + 3*189},
	} {
		tells(t, fmt.Sprintf("%+q", row.s), row.s, row.want)
	}
}

func TestSumsOfOneByte(t *testing.T) {
	for c := range 256 {
		tells(t, fmt.Sprint("the byte ", c), string([]byte{byte(c)}), c)
	}
}

func TestSumsOfAllBytes(t *testing.T) {
	rising := make([]byte, 256)
	for i := range rising {
		rising[i] = byte(i)
	}
	falling := slices.Clone(rising)
	slices.Reverse(falling)
	tells(t, "rising", string(rising), 5592320-5*api.SumPrime)
	tells(t, "falling", string(falling), 2796160-2*api.SumPrime)
	r := rand.New(rand.NewSource(1))
	for range 1000 {
		r.Shuffle(len(rising), func(i, j int) { rising[i], rising[j] = rising[j], rising[i] })
		tells(t, "all bytes by chance", string(rising), model(string(rising)))
	}
}

// By chance.

func TestSumsByChance(t *testing.T) {
	r := rand.New(rand.NewSource(2))
	for n := range 600 {
		for range 5 {
			s := chance(r, n)
			tells(t, fmt.Sprint(n, " bytes"), s, model(s))
		}
	}
	for range 40 {
		s := chance(r, r.Intn(api.MaxFrame+1))
		tells(t, fmt.Sprint(len(s), " bytes"), s, model(s))
	}
}

// A text behind another one adds its own sum, and all of its bytes once more for each byte ahead.
func TestSumsOfTextsBehindTexts(t *testing.T) {
	r := rand.New(rand.NewSource(3))
	for i := range 400 {
		most := []int{3, 40, 3000, 30000}[i%4]
		a, b := chance(r, r.Intn(most)), chance(r, r.Intn(most))
		want := int64(sum.Sum(a) + sum.Sum(b))
		for _, c := range []byte(b) {
			want += int64(len(a)) * int64(c)
		}
		tells(t, fmt.Sprint(len(a), " and ", len(b), " bytes"), a+b, int(want%api.SumPrime))
	}
}

// The edges.

func TestSumsOfOnePlace(t *testing.T) {
	places := []int{0, 1, api.MaxFrame - 2, api.MaxFrame - 1}
	for at := 65536; at < api.MaxFrame; at += 65536 {
		places = append(places, around(at)...)
	}
	for _, at := range places {
		for _, c := range []byte{1, 2, 128, 255} {
			want := (at + 1) * int(c) % api.SumPrime
			tells(t, fmt.Sprint(c, " at ", at), alone(api.MaxFrame, at, c), want)
			tells(t, fmt.Sprint(c, " at ", at, ", the last one"), alone(at+1, at, c), want)
		}
	}
}

// SumPrime - 3 is MaxFrame, so the places and 1 of MaxFrame bytes make -3 * -2 / 2 modulo SumPrime.
func TestSumsOfLongTexts(t *testing.T) {
	for _, row := range []struct {
		n    int
		want int
	}{
		{65535, 65535 * 65536 / 2 % api.SumPrime},
		{65536, 65536 * 65537 / 2 % api.SumPrime},
		{65537, 65537 * 65538 / 2 % api.SumPrime},
		{api.MaxFrame - 1, 6},
		{api.MaxFrame, 3},
		{api.MaxFrame + 1, 1},
		{api.SumPrime - 1, 0},
		{api.SumPrime, 0},
		{api.SumPrime + 1, 1},
		{api.SumPrime + 2, 3},
		{2*api.SumPrime - 1, 0},
		{2 * api.SumPrime, 0},
		{2*api.SumPrime + 7, 28},
		// Here a place and 1, times 255, is above what 32 bits hold.
		{9*api.SumPrime + 10, 55},
	} {
		for _, c := range []byte{0, 1, 255} {
			s := strings.Repeat(string([]byte{c}), row.n)
			tells(t, fmt.Sprint(row.n, " times ", c), s, row.want*int(c)%api.SumPrime)
		}
	}
}

// Behind MaxFrame too: a place and 1 that is SumPrime counts nothing, and then it begins at 1 again.
func TestSumsOfPlacesFromThePrimeOn(t *testing.T) {
	n := 2*api.SumPrime + 3
	for _, row := range []struct {
		at     int
		weight int
	}{
		{api.MaxFrame, api.SumPrime - 2},
		{api.SumPrime - 2, api.SumPrime - 1},
		{api.SumPrime - 1, 0},
		{api.SumPrime, 1},
		{api.SumPrime + 1, 2},
		{2*api.SumPrime - 2, api.SumPrime - 1},
		{2*api.SumPrime - 1, 0},
		{2 * api.SumPrime, 1},
	} {
		for _, c := range []byte{1, 2, 255} {
			tells(t, fmt.Sprint(c, " at ", row.at), alone(n, row.at, c), row.weight*int(c)%api.SumPrime)
			tells(t, fmt.Sprint(c, " at ", row.at, ", the last one"), alone(row.at+1, row.at, c), row.weight*int(c)%api.SumPrime)
		}
	}
	s := chance(rand.New(rand.NewSource(4)), n)
	tells(t, fmt.Sprint(n, " bytes by chance"), s, model(s))
}

// P16.2.

// turned: is each of the 256 texts that a text is with one byte or another at a place told by a sum of its own?
func turned(t *testing.T, s string, at int) {
	t.Helper()
	was, whole := int(s[at]), sum.Sum(s)
	seen := map[int]bool{}
	b := []byte(s)
	for c := range 256 {
		b[at] = byte(c)
		got := sum.Sum(string(b))
		want := (whole + (at+1)*(c-was)) % api.SumPrime
		if want < 0 {
			want += api.SumPrime
		}
		if seen[got] || got != want || (got == whole) != (c == was) {
			t.Fatalf("P16.2: %d bytes, %d at %d, where %d was: %d, and %d was", len(s), c, at, was, got, whole)
		}
		seen[got] = true
	}
}

func TestTurnedBytesOfShortTexts(t *testing.T) {
	r := rand.New(rand.NewSource(5))
	for n := range 20 {
		for _, s := range []string{strings.Repeat("\x00", n), strings.Repeat("\xff", n), strings.Repeat("a", n), chance(r, n)} {
			for at := range n {
				turned(t, s, at)
			}
		}
	}
	s := "P0,4,2,3,k3,p2:abc1,"
	for at := range len(s) {
		turned(t, s, at)
	}
	s = chance(r, api.MaxDoc)
	for at := range len(s) {
		turned(t, s, at)
	}
}

func TestTurnedBytesOfLongTexts(t *testing.T) {
	for i, s := range []string{
		chance(rand.New(rand.NewSource(6)), api.MaxFrame),
		strings.Repeat("\x00", api.MaxFrame),
		strings.Repeat("\xff", api.MaxFrame),
	} {
		for _, at := range []int{0, 65535, 65536, len(s) - 1} {
			t.Run(fmt.Sprint(i, " at ", at), func(t *testing.T) {
				t.Parallel()
				turned(t, s, at)
			})
		}
	}
	s := chance(rand.New(rand.NewSource(7)), 65537)
	for _, at := range []int{1, 255, 256, 4095, 4096, 32767, 32768, 65534, 65535, 65536} {
		turned(t, s, at)
	}
}

// changed: have two unlike bytes of a text that change places another sum?
func changed(t *testing.T, s string, i int, j int) {
	t.Helper()
	if s[i] == s[j] {
		return
	}
	b := []byte(s)
	b[i], b[j] = b[j], b[i]
	was, got := sum.Sum(s), sum.Sum(string(b))
	if got == was || got != model(string(b)) {
		t.Errorf("P16.2: %d bytes, those at %d and %d changed: %d, and %d was", len(s), i, j, got, was)
	}
}

func TestBytesThatChangePlaces(t *testing.T) {
	r := rand.New(rand.NewSource(8))
	for _, s := range []string{"ab", "abc", "minuet", "\x00\xff", "\x00\x01\x00\x01", chance(r, 100)} {
		for j := range len(s) {
			for i := range j {
				changed(t, s, i, j)
			}
		}
	}
	last := api.MaxFrame - 1
	for _, ends := range []string{"\x00\xff", "\xff\x00", "\x00\x01", "ab"} {
		s := ends[:1] + strings.Repeat("c", last-1) + ends[1:]
		for _, pair := range [][2]int{{0, last}, {0, 1}, {last - 1, last}, {0, 65535}, {0, 65536}, {65535, last}, {65536, last}} {
			changed(t, s, pair[0], pair[1])
		}
	}
}

// The rules.

// A text within more bytes: those around it count nothing, and all of them stay as they were.
func TestWhatIsHandedInStays(t *testing.T) {
	r := rand.New(rand.NewSource(9))
	for _, n := range []int{0, 1, 2, 17, api.MaxDoc, 65536, api.MaxFrame} {
		room := []byte(chance(r, n+64))
		was := slices.Clone(room)
		s := unsafe.String(&room[32], n)
		want := model(string(was[32 : 32+n]))
		for range 3 {
			tells(t, fmt.Sprint(n, " bytes within more"), s, want)
			tells(t, fmt.Sprint(n, " bytes elsewhere"), strings.Clone(s), want)
		}
		if !slices.Equal(room, was) {
			t.Errorf("%d bytes: what was handed in is another text", n)
		}
	}
}

// What other texts were asked between turns nothing.
func TestOneTextHasOneSum(t *testing.T) {
	r := rand.New(rand.NewSource(10))
	texts := []string{"", "\x00", "minuet", "teunim", chance(r, 5000), chance(r, 5000)}
	for range 500 {
		s := texts[r.Intn(len(texts))]
		tells(t, fmt.Sprint(len(s), " bytes again"), s, model(s))
	}
}

func TestCallsAtOneTime(t *testing.T) {
	texts := []string{"", "minuet", chance(rand.New(rand.NewSource(11)), 3000), strings.Repeat("\xff", 3000)}
	var right atomic.Int64
	var group sync.WaitGroup
	for i := range 8 {
		group.Add(1)
		go func() {
			defer group.Done()
			for k := range 100 {
				s := texts[(i+k)%len(texts)]
				if sum.Sum(s) == model(s) {
					right.Add(1)
				}
			}
		}()
	}
	group.Wait()
	if right.Load() != 800 {
		t.Errorf("%d of 800 calls were right", right.Load())
	}
}

func TestSumsTakeNoMemory(t *testing.T) {
	s := strings.Repeat("\xff", api.MaxFrame)
	if n := testing.AllocsPerRun(10, func() { sum.Sum(s) }); n != 0 {
		t.Errorf("%v times memory was taken", n)
	}
}
