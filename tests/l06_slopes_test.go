package tests

import (
	"math"
	"testing"

	"loop.example/g01318/impl"
)

// slopeRow are numbers with the slope and the base of their line, and how far they are from it.
type slopeRow struct {
	x, y               []float32
	slope, base, doubt float32
}

func slopeRows() []slopeRow {
	return []slopeRow{
		{[]float32{0, 1, 2}, []float32{1, 3, 5}, 2, 1, 0},
		{[]float32{2, 1, 0}, []float32{5, 3, 1}, 2, 1, 0},
		{[]float32{-1, 1}, []float32{1, -1}, -1, 0, 0},
		{[]float32{1, 2, 4}, []float32{3, 3, 3}, 0, 3, 0},
		{[]float32{1, 2, 4}, []float32{minusZero, minusZero, 0}, 0, 0, 0},
		{[]float32{-1, 1}, []float32{-1e19, 1e19}, number(0x5f0ac723), 0, 0},
		// Sums go in order: 1 is lost beside 2 to the power of 24, but not before it.
		{[]float32{16777216, 1, 1, 0}, []float32{1, 1, 16777216, 2}, number(0xbeaaaaa8), number(0x4aaaaaac), number(0x4ad105ea)},
		{[]float32{1, 1, 16777216, 0}, []float32{2, 1, 1, 0}, number(0x282aaaac), number(0x3f7fffff), number(0x3f3504f3)},
		{[]float32{1e-20, 2e-20}, []float32{1, 2}, number(0x60ad7889), number(0x375c0000), number(0x36920382)},
		// What is divided by need not be finite.
		{[]float32{0, 1.5e19}, []float32{1, 2}, 0, 1.5, 0.5},
		{[]float32{-2e19, 2e19}, []float32{1, 2}, 0, 1.5, 0.5},
		// Equal x can have a slope where sums are rounded.
		{repeated(float32(0.7), 3), []float32{0, 1, 2}, 0, 1, number(0x3f5105ec)},
		{repeated(float32(0.7), 5), []float32{0, 1, 2, 3, 4}, minusZero, 2, number(0x3fb504f3)},
		{repeated(float32(0.7), 6), []float32{0, 1, 2, 3, 4, 5}, 2, number(0x3f8ccccd), number(0x3fda9a04)},
		{repeated(float32(0.3), 7), []float32{0, 1, 2, 3, 4, 5, 6}, 8, number(0x3f19999b), 2},
		{repeated(float32(1.3), 7), []float32{0, 1, 2, 3, 4, 5, 6}, number(0x3f2aaaab), number(0x40088888), 2},
		{numbers("bf46edee c02c01b7"), numbers("403d53d1 3fcbabff"), number(0x3f372d36), number(0x4060e99c), number(0x35232b2b)},
		{numbers("402cb8d7 3f9a207f bf706ae9"), numbers("c022341f 3fb1cea9 c01435e7"), number(0x3d82be61), number(0xbf9bbf19), number(0x3fe61c29)},
		{numbers("3e90c507 be5cded5 bd066998 c023215b"), numbers("c0239859 3df909ea c0344c1e 3e1c32fc"), number(0xbf57c577), number(0xbfe6ff76), number(0x3f86a0b7)},
		{numbers("c00648de bfa7a656 c00603ee 3ed23ce7 bf2b8e9a"), numbers("bfd4ac3f bfd5d07f 3ec4c89d 401da9b2 bef86de6"), number(0x3f915a03), number(0x3f8eac61), number(0x3f8ca336)},
		{numbers("c001565f bf8cedcf bfc76c7f 3ede4cc8 3fdbf81a 3ed3b53f bfef80f2 bf8632aa"), numbers("bf36a8d7 beb56bf3 bf1d6c3b 403f0c42 3e9cda4f 3f78f288 3fa62c8c 3f5ef0b5"), number(0x3ebf6298), number(0x3f54369c), number(0x3f86956a)},
		{numbers("3fea7022 bf44438c 3f7fd5cc 403578c7 c000f981 3f40b6a4 bf311a4c c0288cd9 c030b07a 3fc6e2b6 c013ff1f 3fa2151c c0198b38"), numbers("bf4b57bf c033a47d 3e83589c 3fdbf610 bfd2c181 3ec89f2f 402227b3 bf9e97ea be31e02e 3fac255b 400bdc93 bffe8186 3f77d8bd"), number(0x3dab59dc), number(0x3daf6025), number(0x3fcd6e8f)},
		{eventful(), otherwise(), number(0x3e0d7901), number(0x401f2b17), number(0x4115016f)},
	}
}

func TestSlopes(t *testing.T) {
	for _, r := range slopeRows() {
		slope, base, ok := impl.SlopeOf(r.x, r.y)
		wantSum(t, "SlopeOf", slope, ok, r.slope)
		wantNumber(t, "the base of SlopeOf", base, r.base)
		doubt, ok := impl.SlopeDoubt(r.x, r.y)
		wantSum(t, "SlopeDoubt", doubt, ok, r.doubt)
	}
}

// wantNoSlope wants failures of SlopeOf and of SlopeDoubt.
func wantNoSlope(t *testing.T, what string, x, y []float32) {
	t.Helper()
	slope, base, ok := impl.SlopeOf(x, y)
	wantNone(t, "SlopeOf "+what, slope, ok)
	wantNone(t, "the base of SlopeOf "+what, base, ok)
	doubt, ok := impl.SlopeDoubt(x, y)
	wantNone(t, "SlopeDoubt "+what, doubt, ok)
}

func TestSlopesFail(t *testing.T) {
	for _, list := range append(wrongNumbers(), nil, []float32{}, []float32{1}) {
		wantNoSlope(t, "of wrong lists", list, list)
		other := make([]float32, len(list))
		for i := range other {
			other[i] = float32(i)
		}
		wantNoSlope(t, "of wrong x", list, other)
		wantNoSlope(t, "of wrong y", other, list)
	}
	wantNoSlope(t, "of more x than y", []float32{1, 2, 3}, []float32{1, 2})
	wantNoSlope(t, "of more y than x", []float32{1, 2}, []float32{1, 2, 3})
	wantNoSlope(t, "of x without y", []float32{1, 2}, nil)
	for count := 2; count <= 256; count *= 2 {
		wantNoSlope(t, "of equal x", repeated(float32(0.5), count), eventful()[:count])
		wantNoSlope(t, "of equal numbers", repeated(float32(-3), count), repeated(float32(-3), count))
	}
	wantNoSlope(t, "of zeros", []float32{0, minusZero}, []float32{1, 2})
	wantNoSlope(t, "with squares that are nothing", []float32{1e-30, 2e-30}, []float32{1, 2})
	wantNoSlope(t, "with sums that are not finite", []float32{0, 1}, []float32{3e38, 3e38})
	wantNoSlope(t, "with squares that are not finite", []float32{0, 2e19}, []float32{1, 2})
	wantNoSlope(t, "with a base that is not finite", []float32{0.5, 1.5}, []float32{-1e38, 1e38})
	// Here, only the squares of what is left are not finite.
	slope, _, ok := impl.SlopeOf([]float32{0, 1, 2}, []float32{1e20, -1e20, 1e20})
	wantSum(t, "SlopeOf great numbers", slope, ok, 0)
	doubt, ok := impl.SlopeDoubt([]float32{0, 1, 2}, []float32{1e20, -1e20, 1e20})
	wantNone(t, "SlopeDoubt of great numbers", doubt, ok)
}

// TestSlopesOfLinesAreTheirs holds promise 7 for slopes.
func TestSlopesOfLinesAreTheirs(t *testing.T) {
	for _, count := range []int{2, 3, 10, 100, 256} {
		for _, slope := range []float32{0, 0.25, -1, 1.7, -33, 0.01} {
			for _, base := range []float32{0, 1, -2.5, 40} {
				x, y := make([]float32, count), make([]float32, count)
				for i := range x {
					x[i] = float32(i*7%count)/float32(count) - 0.4
					y[i] = slope*x[i] + base
				}
				gotSlope, gotBase, one := impl.SlopeOf(x, y)
				doubt, two := impl.SlopeDoubt(x, y)
				near := 1e-3 * (1 + math.Abs(float64(slope)) + math.Abs(float64(base)))
				if !one || !two || math.Abs(float64(gotSlope-slope)) > near || math.Abs(float64(gotBase-base)) > near || float64(doubt) > near {
					t.Errorf("a line of %d points with the slope %v and the base %v has %v and %v, and the doubt %v", count, slope, base, gotSlope, gotBase, doubt)
				}
			}
		}
	}
}

func TestLogsOf(t *testing.T) {
	rows := []struct{ list, want string }{
		{"", ""},
		{"3f800000", "00000000"},
		{
			"3f800000 40000000 3f000000 40400000 00000001 7f7fffff 006ce3ee 3f800001 3f7fffff 3eceefab 3ec31a42 403cd65d",
			"00000000 3f317218 bf317218 3f8c9f54 c2ce8ed0 42b17218 c2aeff18 33ffffff b3800000 bf67e9fc bf76fd15 3f8a7f13",
		},
	}
	for _, r := range rows {
		got, ok := impl.LogsOf(numbers(r.list))
		wantNumbers(t, "LogsOf "+r.list, got, ok, numbers(r.want))
	}
	got, ok := impl.LogsOf(positive())
	if !ok || len(got) != 256 || digest(got) != 0xe5e7c954 {
		t.Errorf("LogsOf the greatest list: got %v, %v", got, ok)
	}
}

// positive is a list of the greatest length of numbers greater than 0.
func positive() []float32 {
	list := eventful()
	for i, x := range list {
		list[i] = float32(math.Abs(float64(x))) + 0.5
	}
	return list
}

func TestLogsOfFails(t *testing.T) {
	for _, list := range wrongNumbers() {
		got, ok := impl.LogsOf(list)
		wantNoList(t, "LogsOf no list", got, ok)
	}
	for _, x := range wrongSizes() {
		for _, list := range [][]float32{{x}, {x, 1, 2}, {1, 2, x}} {
			got, ok := impl.LogsOf(list)
			wantNoList(t, "LogsOf a number without a logarithm", got, ok)
		}
	}
}

func TestSizesOf(t *testing.T) {
	rows := []struct {
		from, by float32
		count    int64
		want     string
	}{
		{4, 0.5, 3, "40800000 40000000 3f800000"},
		{1, 2, 1, "3f800000"},
		{mostNumber, mostNumber, 1, "7f7fffff"},
		{mostNumber, 1, 3, "7f7fffff 7f7fffff 7f7fffff"},
		// Sizes can become nothing.
		{leastNumber, 0.5, 3, "00000001 00000000 00000000"},
		{1e-30, 1e-30, 2, "0da24260 00000000"},
		{number(0x3e4a4757), number(0x4030dbc0), 3, "3e4a4757 3f0bbeaf 3fc1161a"},
		{number(0x4010d246), number(0x3e99999a), 7, "4010d246 3f2dc921 3e508af5 3d7a405a 3c96269d 3bb42e56 3ad8379b"},
		{number(0x4002d11f), number(0x3f8ccccd), 32, "4002d11f 400fe609 401e49d7 402e1e06 403f876d 4052ae92 4067c007 407eecd5 408c3575 409a3ace 40a9a716 40ba9e32 40cd479e 40e1cec8 40f86376 41089d1b 4116466b 41254d76 4135d535 41480421 415c048b 41720500 41851c5a 41926bfd 41a11063 41b12ba0 41c2e330 41d6604f 41ebd057 4201b296 420eaad8 421cef21"},
	}
	for _, r := range rows {
		got, ok := impl.SizesOf(r.from, r.by, r.count)
		wantNumbers(t, "SizesOf", got, ok, numbers(r.want))
	}
}

func TestSizesOfFails(t *testing.T) {
	fails := func(what string, from, by float32, count int64) {
		t.Helper()
		got, ok := impl.SizesOf(from, by, count)
		wantNoList(t, "SizesOf "+what, got, ok)
	}
	for _, x := range wrongSizes() {
		fails("a wrong first one", x, 1, 2)
		fails("a wrong first one", x, 1, 1)
		fails("a wrong ratio", 1, x, 2)
		fails("a wrong ratio", 1, x, 1)
	}
	for _, count := range []int64{0, -1, 33, math.MaxInt64, math.MinInt64} {
		fails("too few or too many", 1, 1, count)
	}
	fails("what is not finite", mostNumber, 2, 2)
	fails("what is not finite at last", 1, 2e19, 3)
}

func TestBoxSlope(t *testing.T) {
	line4 := []complex64{0, 1, 2, 3}
	rows := []struct {
		points []complex64
		sizes  string
		want   float32
	}{
		// As many boxes of all sizes have the slope 0, and its opposite has a sign.
		{[]complex64{7}, "40000000 3f800000", minusZero},
		{line4, "42c80000 41200000 41000000", minusZero},
		{line4, "40800000 40000000", 1},
		{line4, "40000000 40800000", 1},
		{line("3fb035c23f67e1ba bfa3904dbeadf5bc bfe4c1544009f5ab 3fd620783fdcd548 bfdbae163f0da2e9"), "40000000 3f800000 3f000000", number(0x3e24d3c2)},
		{line("bfbc341e3fdf2188 3fbbfcb3403e1f9b 3f9fe4b13f8d39f4 3fd4bf92c01c06fe 3f127ad7c0336d69 bf4c127ec01306b3 402c3697c0353e2c 4021c91f402bfcb7"), "40400000 3fc00000 3f400000 3e99999a", number(0x3e8f5ee4)},
		{line("bec5c0543fff5539 c02c20bdc00a787d c03c39d8c025dab4 c03f02583ffc288e c01e64513f0b5e5e bfae28f2c00d2a86 bef82ab4bff4583e 40373d02bf3252ba 3f101b363ec334f7 3f42df25bdf068fa bfb085e7c00b7aa6 401502b3bfec22c7"), "40200000 3f8ccccd", number(0x3efcddbc)},
		{cloudOf(eventful(), otherwise()), "41200000 40400000 3f800000 3e99999a 3dcccccd", number(0x3f3c999c)},
	}
	for _, r := range rows {
		got, ok := impl.BoxSlope(r.points, numbers(r.sizes))
		wantSum(t, "BoxSlope with "+r.sizes, got, ok, r.want)
	}
}

func TestBoxSlopeFails(t *testing.T) {
	fails := func(what string, points []complex64, sizes []float32) {
		t.Helper()
		got, ok := impl.BoxSlope(points, sizes)
		wantNone(t, "BoxSlope "+what, got, ok)
	}
	for _, points := range append(wrongLines(), nil, []complex64{}) {
		fails("of no points", points, []float32{1, 2, 4})
	}
	two := []complex64{0, 5}
	for _, sizes := range append(wrongNumbers(), nil, []float32{}, []float32{1}, []float32{2, 2}, repeated(float32(1), 256)) {
		fails("with wrong sizes", two, sizes)
	}
	for _, size := range wrongSizes() {
		fails("with a wrong size", two, []float32{1, 2, size})
	}
	fails("with a quotient too great", []complex64{0, 3000}, []float32{1, 2, 0.001})
}

// TestBoxSlopesOfSets holds promise 7 for sets with told dimensions.
func TestBoxSlopesOfSets(t *testing.T) {
	straight, _ := impl.EvenPoints([]complex64{0, 1}, 256)
	var square, dust []complex64
	set, _ := impl.CantorSet(6)
	for _, x := range set {
		dust = append(dust, complex(x+0.0001, 0))
	}
	for i := range 256 {
		square = append(square, complex(float32(i%16)/16, float32(i/16)/16))
	}
	rows := []struct {
		what     string
		points   []complex64
		from, by float32
		count    int64
		want     float64
	}{
		{"a straight line", straight[:255], 1, 0.5, 7, 1},
		{"a square", square, 1, 0.5, 5, 2},
		{"a set of Cantor", dust, 1, number(0x3eaaaaab), 6, math.Log(2) / math.Log(3)},
	}
	for _, r := range rows {
		sizes, _ := impl.SizesOf(r.from, r.by, r.count)
		got, ok := impl.BoxSlope(r.points, sizes)
		if !ok || math.Abs(float64(got)-r.want) > 0.001 {
			t.Errorf("BoxSlope of %s: got %v, %v, want %v, nearly", r.what, got, ok, r.want)
		}
	}
}
