package tests

import (
	"math"
	"testing"

	"loop.example/g01318/impl"
)

// wrongWords are no words of three maps.
func wrongWords() [][]int64 {
	return [][]int64{
		{-1}, {3}, {0, 3, 0}, {0, 1, 2, -1}, {1 << 32}, {math.MaxInt64}, {math.MinInt64, 0},
		make([]int64, 25), repeated(int64(2), 5000),
	}
}

// wordRows have words of bent maps, with their maps, places and shares.
func wordRows() []struct {
	word  []int64
	whole impl.Small
	z, to complex64
	share float32
} {
	long := []int64{1, 0, 1, 2, 0, 2, 0, 0, 2, 0, 1, 1, 0, 1, 0, 0, 0, 2, 2, 1, 0, 0, 0, 0}
	return []struct {
		word  []int64
		whole impl.Small
		z, to complex64
		share float32
	}{
		{[]int64{0}, bent()[0], at(0xbf14c222bf11ac74), at(0x3ec32dfe3e444c2c), 0.45},
		{[]int64{1}, bent()[1], at(0x3f76ffe63f3eac3b), at(0xbf59f3ca401261bc), 0.2},
		{[]int64{2}, bent()[2], at(0xbed7c0633f6c46d8), at(0xbe8d8023bf9396c7), 0.35},
		{
			[]int64{0, 1}, impl.Small{Turn: at(0xbe530be13e90be0e), Shift: at(0x3fa8624e3f84ac08), Flip: true, Share: number(0x3db851eb)},
			at(0x3da0a8ca3eb61931), at(0x3fb32f2f3f90e4ad), number(0x3db851eb),
		},
		{
			[]int64{1, 0}, impl.Small{Turn: at(0xbe9ac711be34538f), Shift: at(0xbf56594b3ff813aa), Flip: true, Share: number(0x3db851eb)},
			at(0xbf1727243f61c79b), at(0xbf506a444013c197), number(0x3db851eb),
		},
		{
			[]int64{1, 0, 2}, impl.Small{Turn: at(0xbe0f826f3e52c493), Shift: at(0xbf4cbb1b3fcc3c4b), Flip: true, Share: number(0x3d010625)},
			at(0x3ec337a43f6ee184), at(0xbf293df13fe7051a), number(0x3d010624),
		},
		{
			[]int64{2, 2, 1, 0, 1}, impl.Small{Turn: at(0xbdbe9c7bbd809b4e), Shift: at(0x3fb2e4fcbfff5d55), Share: number(0x3b1081c2)},
			at(0x3f499882bece0a48), at(0x3fa64744c0007338), number(0x3b1081c3),
		},
		{
			[]int64{1, 1, 1, 1}, impl.Small{Turn: at(0x3e24e81eb0a1272c), Shift: at(0x3dfc8c404072e82e), Share: number(0x3ad1b718)},
			at(0xc38acf60c42705a0), at(0xc2325724c2cf96d5), number(0x3ad1b718),
		},
		{
			long, impl.Small{Turn: at(0xb646bb52b691648b), Shift: at(0xbf72cd2240229a04), Share: number(0x2d377c5f)},
			at(0xbf35668fbf5ea602), at(0xbf72cd3e40229a1c), number(0x2d377c60),
		},
	}
}

func TestWordSmall(t *testing.T) {
	for _, r := range wordRows() {
		got, ok := impl.WordSmall(bent(), r.word)
		wantSmall(t, "WordSmall", got, ok, r.whole)
	}
	got, ok := impl.WordSmall([]impl.Small{half}, make([]int64, 24))
	wantSmall(t, "WordSmall of the most indices", got, ok, impl.Small{Turn: 0x1p-24, Share: 1})
}

func TestWordSmallFails(t *testing.T) {
	for _, word := range append(wrongWords(), nil, []int64{}) {
		got, ok := impl.WordSmall(bent(), word)
		wantNone(t, "WordSmall of no word", got, ok)
	}
	for _, list := range wrongLists() {
		got, ok := impl.WordSmall(list, []int64{0})
		wantNone(t, "WordSmall of a wrong list", got, ok)
	}
	// The map of the last indices alone is not valid, but that of all would be.
	list := []impl.Small{{Turn: 0.9, Shift: 600, Share: 1}, {Share: 0}}
	for _, word := range [][]int64{{0, 0}, {1, 0, 0}, {1, 1, 1, 0, 0}} {
		got, ok := impl.WordSmall(list, word)
		wantNone(t, "WordSmall by what is not valid", got, ok)
	}
	got, ok := impl.WordSmall(list, []int64{1, 0, 1, 0})
	wantSmall(t, "WordSmall of what stays valid", got, ok, impl.Small{})
}

func TestWordPlace(t *testing.T) {
	for _, r := range wordRows() {
		got, ok := impl.WordPlace(bent(), r.word, r.z)
		wantComplexSum(t, "WordPlace", got, ok, r.to)
	}
	for _, z := range smallOnes() {
		got, ok := impl.WordPlace(bent(), nil, z)
		wantComplexSum(t, "WordPlace of no indices", got, ok, z)
	}
	got, ok := impl.WordPlace([]impl.Small{half}, make([]int64, 24), 1)
	wantComplexSum(t, "WordPlace of the most indices", got, ok, 0x1p-24)
	got, ok = impl.WordPlace([]impl.Small{{Turn: 0.5, Shift: 500, Share: 1}}, []int64{0, 0, 0}, 1000)
	wantComplexSum(t, "WordPlace up to the bound", got, ok, 1000)
}

func TestWordPlaceFails(t *testing.T) {
	for _, word := range wrongWords() {
		got, ok := impl.WordPlace(bent(), word, 1)
		wantNone(t, "WordPlace of no word", got, ok)
	}
	for _, list := range wrongLists() {
		got, ok := impl.WordPlace(list, nil, 1)
		wantNone(t, "WordPlace of a wrong list", got, ok)
	}
	for _, z := range largeOnes() {
		got, ok := impl.WordPlace(bent(), []int64{0}, z)
		wantNone(t, "WordPlace of a large number", got, ok)
		got, ok = impl.WordPlace(bent(), nil, z)
		wantNone(t, "WordPlace of a large number and no indices", got, ok)
	}
	// Each number on the way must be small, the last one too.
	list := []impl.Small{{Turn: 0.5, Shift: 600, Share: 1}, {Turn: 0.5}}
	for _, word := range [][]int64{{0}, {1, 0}, {0, 1, 0}} {
		got, ok := impl.WordPlace(list, word, 1000)
		wantNone(t, "WordPlace over a large number", got, ok)
	}
	got, ok := impl.WordPlace(list, []int64{0, 1}, 1000)
	wantComplexSum(t, "WordPlace over small numbers", got, ok, 850)
}

func TestWordShare(t *testing.T) {
	for _, r := range wordRows() {
		got, ok := impl.WordShare(bent(), r.word)
		wantSum(t, "WordShare", got, ok, r.share)
	}
	got, ok := impl.WordShare(bent(), nil)
	wantSum(t, "WordShare of no indices", got, ok, 1)
	got, ok = impl.WordShare(withShares(0.5, 0.5), make([]int64, 24))
	wantSum(t, "WordShare of the most indices", got, ok, 0x1p-24)
	got, ok = impl.WordShare(withShares(1, minusZero), []int64{0, 1, 0})
	wantSum(t, "WordShare of nothing", got, ok, minusZero)
	for _, word := range wrongWords() {
		got, ok = impl.WordShare(bent(), word)
		wantNone(t, "WordShare of no word", got, ok)
	}
	for _, list := range wrongLists() {
		got, ok = impl.WordShare(list, nil)
		wantNone(t, "WordShare of a wrong list", got, ok)
	}
}

// TestWordsLeadWhereTheirMapsDo holds promise 4: the map of a word leads a number
// where the maps of its indices lead it one after another, nearly.
func TestWordsLeadWhereTheirMapsDo(t *testing.T) {
	for i, z := range spreadOver(4, 120) {
		for _, list := range [][]impl.Small{bent(), triangle()} {
			word, ok := impl.WordAt(list, int64(i), 5)
			if !ok {
				t.Fatalf("there is no word number %d", i)
			}
			whole, one := impl.WordSmall(list, word)
			at, two := impl.MapSmall(whole, z)
			place, three := impl.WordPlace(list, word, z)
			if !one || !two || !three || impl.LongOf(at-place) > 1e-5 {
				t.Errorf("the map of the word %v leads %v to %v, and the word to %v", word, z, at, place)
			}
			step := z
			for k := range word {
				step, _ = impl.MapSmall(list[word[4-k]], step)
			}
			wantComplex(t, "WordPlace, step by step", place, step)
			share, ok := impl.WordShare(list, word)
			if !ok || math.Abs(float64(share-whole.Share)) > 1e-6 {
				t.Errorf("the word %v has the share %v, and its map %v", word, share, whole.Share)
			}
		}
	}
}

// nextWord makes the word after a word of the same length, and reports whether there is one.
func nextWord(word []int64, count int64) bool {
	for i := len(word) - 1; i >= 0; i-- {
		if word[i]+1 < count {
			word[i]++
			return true
		}
		word[i] = 0
	}
	return false
}

func TestWordAt(t *testing.T) {
	for count := int64(1); count <= 8; count++ {
		list := repeated(impl.Small{Turn: 0.5, Share: 1 / float32(count)}, int(count))
		for long := int64(0); long <= 4; long++ {
			word := make([]int64, long)
			n := int64(0)
			for more := true; more; n++ {
				got, ok := impl.WordAt(list, n, long)
				wantIntegers(t, "WordAt", got, ok, word)
				more = nextWord(word, count)
			}
			got, ok := impl.WordAt(list, n, long)
			wantNoList(t, "WordAt after the last word", got, ok)
		}
	}
	two := withShares(0.5, 0.5)
	eight := repeated(impl.Small{Share: 0.125}, 8)
	rows := []struct {
		list    []impl.Small
		n, long int64
		want    []int64 // nil if it fails
	}{
		{two, 2, 2, []int64{1, 0}},
		{bent(), 5, 3, []int64{0, 1, 2}},
		{two, 1<<24 - 1, 24, repeated(int64(1), 24)},
		{two, 1 << 24, 24, nil},
		{two, 1 << 23, 24, append([]int64{1}, make([]int64, 23)...)},
		{[]impl.Small{half}, 0, 24, make([]int64, 24)},
		{[]impl.Small{half}, 1, 24, nil},
		{[]impl.Small{half}, math.MaxInt64, 24, nil},
		{eight, math.MaxInt64, 24, append([]int64{0, 0, 0}, repeated(int64(7), 21)...)},
		{eight, math.MaxInt64, 21, repeated(int64(7), 21)},
		{eight, math.MaxInt64, 20, nil},
		{eight, math.MaxInt64, 22, append([]int64{0}, repeated(int64(7), 21)...)},
		{eight, 1 << 60, 20, nil},
		{eight, 1<<60 - 1, 20, repeated(int64(7), 20)},
	}
	for _, r := range rows {
		got, ok := impl.WordAt(r.list, r.n, r.long)
		if r.want == nil {
			wantNoList(t, "WordAt of too few words", got, ok)
		} else {
			wantIntegers(t, "WordAt", got, ok, r.want)
		}
	}
}

func TestWordAtFails(t *testing.T) {
	for _, n := range []int64{-1, -2, -1 << 63, math.MaxInt64, 27} {
		got, ok := impl.WordAt(bent(), n, 3)
		wantNoList(t, "WordAt of a wrong number", got, ok)
	}
	for _, long := range []int64{-1, 25, 1 << 62, -1 << 63} {
		got, ok := impl.WordAt(bent(), 0, long)
		wantNoList(t, "WordAt of a wrong length", got, ok)
	}
	for _, list := range wrongLists() {
		got, ok := impl.WordAt(list, 0, 2)
		wantNoList(t, "WordAt of a wrong list", got, ok)
	}
}

func TestBallOf(t *testing.T) {
	rows := []struct {
		list []impl.Small
		want float32
	}{
		{[]impl.Small{{Turn: 0.5, Shift: 1, Share: 0.5}, {Turn: 0.5i, Flip: true, Share: 0.5}}, 2},
		{[]impl.Small{{Turn: 0.5i, Flip: true, Share: 0.5}, {Turn: 0.5, Shift: 1, Share: 0.5}}, 2},
		// The longest Turn and the longest Shift may be those of two maps.
		{[]impl.Small{{Turn: -0.75, Share: 0.5}, {Shift: complex(-3, 4), Share: 0.5}}, 20},
		{[]impl.Small{{Shift: complex(-3, 4), Share: 0.5}, {Turn: -0.75, Shift: 1, Share: 0.5}}, 20},
		{[]impl.Small{half}, 0},
		{[]impl.Small{{Turn: complex(minusZero, minusZero), Shift: complex(minusZero, minusZero), Share: 1}}, 0},
		{[]impl.Small{{Turn: complex(beforeOne, 0), Shift: 1000, Share: 1}}, 1000 * 0x1p24},
		{bent(), number(0x40c0b05f)},
		{triangle(), number(0x3f8f1bbd)},
	}
	for _, r := range rows {
		got, ok := impl.BallOf(r.list)
		wantSum(t, "BallOf", got, ok, r.want)
	}
	for _, list := range wrongLists() {
		got, ok := impl.BallOf(list)
		wantNone(t, "BallOf of a wrong list", got, ok)
	}
}

func TestSizeOfSmalls(t *testing.T) {
	long := complex(beforeOne, 0)
	rows := []struct {
		list []impl.Small
		want float32
	}{
		{bent(), number(0x401c10e1)},
		{triangle(), number(0x3fcae00c)},
		{[]impl.Small{half}, 0},
		{[]impl.Small{{Turn: complex(leastNumber, 0), Share: 1}}, 0},
		{repeated(impl.Small{Turn: long, Share: 0.125}, 8), 16},
		{[]impl.Small{{Turn: long, Share: 1}}, 0},
		{repeated(impl.Small{Turn: complex(leastNumber, 0), Share: 0.5}, 2), number(0x3bdbeb60)},
		{repeated(impl.Small{Turn: complex(leastNumber, leastNumber), Share: 0.125}, 8), number(0x3ca4f088)},
		{[]impl.Small{{Turn: long, Share: 0.5}, {Turn: complex(leastNumber, 0), Share: 0.5}}, number(0x3e24f088)},
	}
	for _, r := range rows {
		got, ok := impl.SizeOfSmalls(r.list)
		wantSum(t, "SizeOfSmalls", got, ok, r.want)
	}
	for _, turn := range []complex64{0.5, -0.5, 0.5i, complex(0.3, -0.4)} {
		got, ok := impl.SizeOfSmalls([]impl.Small{{Turn: turn, Share: 0.5}, {Turn: turn, Shift: 7, Flip: true, Share: 0.5}})
		if !ok || math.Abs(float64(got)-1) > 1e-6 {
			t.Errorf("two maps with halves have the size %v, %v", got, ok)
		}
	}
	got, ok := impl.SizeOfSmalls(repeated(impl.Small{Turn: 1.0 / 3, Share: 0.125}, 8))
	if !ok || math.Abs(float64(got)-math.Log(8)/math.Log(3)) > 1e-6 {
		t.Errorf("a carpet has the size %v, %v", got, ok)
	}
}

func TestSizeOfSmallsFails(t *testing.T) {
	for _, list := range wrongLists() {
		got, ok := impl.SizeOfSmalls(list)
		wantNone(t, "SizeOfSmalls of a wrong list", got, ok)
	}
	for _, turn := range []complex64{0, complex(minusZero, 0), complex(minusZero, minusZero)} {
		nothing := impl.Small{Turn: turn, Shift: 1, Share: 0.5}
		with := impl.Small{Turn: 0.5, Share: 0.5}
		for _, list := range [][]impl.Small{{nothing, with}, {with, nothing}, {nothing, nothing}} {
			got, ok := impl.SizeOfSmalls(list)
			wantNone(t, "SizeOfSmalls with a turn of nothing", got, ok)
		}
	}
}
