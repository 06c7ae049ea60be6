package tests

import (
	"math"
	"testing"

	"loop.example/g01318/impl"
)

// coastRow is a picture with what its islands and its coast are.
type coastRow struct {
	s                       impl.Sheet
	islands, largest, coast int64
}

func coastRows() []coastRow {
	checkered, combed := make([]float32, 289), make([]float32, 289)
	for i := range 289 {
		checkered[i] = 2 * float32(i%2)
		if i%17%2 == 0 || i < 17 {
			combed[i] = 2
		}
	}
	return []coastRow{
		{heights(4, 0, 2, 0, 4), 2, 1, 3},
		{pictured("."), 0, 0, 0},
		{pictured("#"), 1, 1, 0},
		{flat(17, 17, 2), 1, 289, 0},
		{flat(17, 17, 0), 0, 0, 0},
		{heights(17, checkered...), 144, 1, 544},
		{heights(17, combed...), 1, 161, 264},
		// Only sides make one island, and rows do not go on behind their ends.
		{pictured("#.", ".#"), 2, 1, 4},
		{pictured("..#", "#.."), 2, 1, 4},
		{pictured(".#", "#."), 2, 1, 4},
		{pictured("##.", "...", ".##"), 2, 2, 6},
		{pictured("###", "#.#", "###"), 1, 8, 4},
		{pictured("...", ".#.", "..."), 1, 1, 4},
		{pictured("#####", "....#", "###.#", "#...#", "#####"), 1, 17, 17},
		{pictured("#.#.#", "#.#.#", "#####"), 1, 11, 10},
		{pictured("#.#.##", ".####.", "##....", "...###"), 3, 9, 21},
		{pictured("#", "#", ".", "#"), 2, 2, 2},
		{pictured("##.#"), 2, 2, 2},
		{pictured("#.###.##"), 3, 3, 4},
	}
}

func TestIslandsAndCoasts(t *testing.T) {
	for _, r := range coastRows() {
		for _, level := range []float32{0, minusZero, leastNumber, 1, number(0x3fffffff)} {
			islands, largest, ok := impl.IslandsOver(r.s, level)
			wantInteger(t, "IslandsOver", islands, ok, r.islands)
			wantInteger(t, "the largest of IslandsOver", largest, ok, r.largest)
			coast, ok := impl.CoastOf(r.s, level)
			wantInteger(t, "CoastOf", coast, ok, r.coast)
		}
	}
}

// TestLevelsBetweenPlaces holds that a place must be higher than a level.
func TestLevelsBetweenPlaces(t *testing.T) {
	s := heights(3, 1, 2, 3, -1, minusZero, 0)
	rows := []struct {
		level                   float32
		islands, largest, coast int64
	}{
		{-mostNumber, 1, 6, 0}, {number(0xbf800001), 1, 6, 0}, {-1, 1, 5, 2}, {-0.5, 1, 5, 2}, {-leastNumber, 1, 5, 2},
		{minusZero, 1, 3, 3}, {0, 1, 3, 3}, {leastNumber, 1, 3, 3}, {beforeOne, 1, 3, 3}, {1, 1, 2, 3}, {1.5, 1, 2, 3}, {2, 1, 1, 2},
		{number(0x403fffff), 1, 1, 2}, {3, 0, 0, 0}, {mostNumber, 0, 0, 0},
	}
	for _, r := range rows {
		islands, largest, ok := impl.IslandsOver(s, r.level)
		wantInteger(t, "IslandsOver a level", islands, ok, r.islands)
		wantInteger(t, "the largest of IslandsOver a level", largest, ok, r.largest)
		coast, ok := impl.CoastOf(s, r.level)
		wantInteger(t, "CoastOf a level", coast, ok, r.coast)
		contour, ok := impl.ContourOf(s, r.level)
		wantInteger(t, "the length of ContourOf a level", int64(len(contour)), ok, r.coast)
	}
}

func TestContourOf(t *testing.T) {
	rows := []struct {
		s     impl.Sheet
		level float32
		want  []complex64
	}{
		{heights(4, 0, 2, 0, 4), 1, []complex64{0.5, 1.5, 2.25}},
		{heights(1, 0, 2, 0, 4), 1, []complex64{0.5i, 1.5i, 2.25i}},
		{heights(1, 7), 1, nil},
		{flat(3, 3, 1), 1, nil},
		// All pairs in rows come before those in columns.
		{heights(2, 0, 4, 4, 0), 1, []complex64{0.25, complex(0.75, 1), 0.25i, complex(1, 0.75)}},
		{heights(3, 0, 0, 0, 0, 4, 0, 0, 0, 0), 1, []complex64{complex(0.25, 1), complex(1.75, 1), complex(1, 0.25), complex(1, 1.75)}},
		// A level that is just a height: the higher place must be beyond it.
		{heights(2, 1, 2), 1, []complex64{0}},
		{heights(2, 2, 1), 1, []complex64{1}},
		{heights(1, 1, 2), 1, []complex64{0}},
		{heights(1, 2, 1), 1, []complex64{1i}},
		{heights(2, 1, 2), 2, nil},
		{heights(2, 0, 1), minusZero, []complex64{0}},
		{heights(2, minusZero, 1), 0, []complex64{0}},
		{heights(1, 0, 1), minusZero, []complex64{0}},
		{heights(2, leastNumber, 0), 0, []complex64{1}},
		// Places are rounded, so that they can come to lie on the next one.
		{heights(3, 0, 0, 1), beforeOne, []complex64{2}},
		{heights(2, mostNumber, 0), 1, []complex64{1}},
		// A difference that is not finite leads to the former place, if the level is not too far.
		{heights(2, -mostNumber, mostNumber), -mostNumber, []complex64{0}},
		{heights(2, mostNumber, -mostNumber), 0, []complex64{0}},
		{sheet("403a22cb / 3fcbe8c2 / 40097374 / bfaff457"), number(0x3f08b041), line("00000000401d5240")},
		{sheet("c03144b4 bf103a93 400848ec 40241887"), number(0xbece553d), line("3f879fd500000000")},
		{sheet("3f90af0d bf83532a bfda7e0a / bf65fdfa 3fe352c8 3f80f1b4"), number(0x3ea0cfd5), line("3ec1d03d00000000 3ee820c03f800000 000000003ece0023 3f8000003ef4dec2 400000003f3e9cfe")},
		{sheet("3fbafe63 bfcbce5c 3fc7cc1a / bf646c67 3e101f2f 40121688 / 3fcaa54a 3fc7228c 401fd938"), number(0xbe3761b9), line("3f09826000000000 3fb95dac00000000 3f30bdd23f800000 000000003f32696c 3f8000003f50c117 000000003fa4e0b5")},
	}
	for _, r := range rows {
		got, ok := impl.ContourOf(r.s, r.level)
		wantList(t, "ContourOf", got, ok, r.want)
	}
}

// TestCoastsAreAsLongAsContours holds promise 6, with tables for hills.
func TestCoastsAreAsLongAsContours(t *testing.T) {
	rows := []struct {
		level                   float32
		islands, largest, coast int64
		contour                 uint32
	}{
		{-3, 1, 289, 0, 0}, {-1, 2, 236, 35, 0xc37acda1}, {0, 4, 166, 72, 0xede9fcdb},
		{0.5, 4, 113, 81, 0x4e82523c}, {1, 7, 71, 95, 0x038573c8}, {2, 5, 7, 29, 0xf462a5cf},
	}
	for _, r := range rows {
		islands, largest, ok := impl.IslandsOver(hills(), r.level)
		wantInteger(t, "IslandsOver hills", islands, ok, r.islands)
		wantInteger(t, "the largest of IslandsOver hills", largest, ok, r.largest)
		coast, ok := impl.CoastOf(hills(), r.level)
		wantInteger(t, "CoastOf hills", coast, ok, r.coast)
		contour, ok := impl.ContourOf(hills(), r.level)
		if !ok || digest(partsOf(contour)) != r.contour {
			t.Errorf("ContourOf hills at %v is %v, %v", r.level, contour, ok)
		}
	}
	for seed := int64(1); seed < 1<<31; seed = 7*seed + 5 {
		for power := int64(1); power <= 4; power++ {
			s, _, _ := impl.DiamondSheet(power, []float32{1, -1, 2, 0}, 2, 0.8, seed)
			for _, level := range append([]float32{-1.5, -0.3, 0.1, 1.9}, s.Heights[:4]...) {
				coast, one := impl.CoastOf(s, level)
				contour, two := impl.ContourOf(s, level)
				if !one || !two || int64(len(contour)) != coast {
					t.Errorf("a coast of %d has a contour of %d places", coast, len(contour))
				}
			}
		}
	}
}

// partsOf returns the real and the imaginary parts of points, in turn.
func partsOf(points []complex64) []float32 {
	var parts []float32
	for _, z := range points {
		parts = append(parts, real(z), imag(z))
	}
	return parts
}

func TestCoastsFail(t *testing.T) {
	fails := func(what string, s impl.Sheet, level float32) {
		t.Helper()
		islands, largest, ok := impl.IslandsOver(s, level)
		wantNone(t, "IslandsOver "+what, islands, ok)
		wantNone(t, "the largest of IslandsOver "+what, largest, ok)
		coast, ok := impl.CoastOf(s, level)
		wantNone(t, "CoastOf "+what, coast, ok)
		contour, ok := impl.ContourOf(s, level)
		wantNoList(t, "ContourOf "+what, contour, ok)
	}
	for _, s := range wrongSheets() {
		fails("a wrong sheet", s, 0)
	}
	for _, level := range endlessNumbers() {
		fails("a wrong level", heights(3, 1, 2, 3), level)
	}
	for _, s := range []impl.Sheet{heights(2, -mostNumber, mostNumber), heights(1, -mostNumber, mostNumber), heights(3, 1, 2, -mostNumber, 1, 2, mostNumber)} {
		contour, ok := impl.ContourOf(s, 1e32)
		wantNoList(t, "ContourOf a level too far from a height", contour, ok)
	}
}

func TestVariogramOf(t *testing.T) {
	rows := []struct {
		s    impl.Sheet
		lag  int64
		want float32
	}{
		{heights(4, 0, 1, 2, 3), 1, 0.5},
		{heights(4, 0, 1, 2, 3), 2, 2},
		{heights(4, 0, 1, 2, 3), 3, 4.5},
		{heights(1, 0, 1, 2, 3), 1, 0.5},
		{heights(1, 3, 2, 1, 0), 3, 4.5},
		{flat(17, 17, 5), 16, 0},
		// Where rows are too short, there are still columns, and the other way round.
		{heights(2, 0, 1, 2, 3, 4, 5), 2, 8},
		{heights(3, 0, 1, 2, 3, 4, 5), 2, 2},
		{heights(2, 0, 1, 0, 1), 1, 0.25},
		// Pairs in rows come first: small squares are lost behind great ones, but not before them.
		{heights(2, 0, 4096, 1.375, 4097.375), 1, 4194304},
		{heights(2, 0, 1.375, 4096, 4097.375), 1, 4194304.5},
		// The mean is rounded, and then its half.
		{heights(2, 0, 0x1p-74), 1, leastNumber},
		{heights(4, 0, 0x1p-74, 0, 0), 1, 0},
		{sheet("bfbf68e6 3ffc3477 3f002027 / bfaf09c5 40392251 40176718"), 1, number(0x4028e42f)},
		{sheet("3fe652d4 be6fd6ec 3fe9a6a7 / bf1c4f7b bfa19d60 3ff1f579"), 2, number(0x3fc82a0e)},
		{sheet("3f238106 3fba3392 / c022f635 3e0e19bc / befd11b2 c0306add"), 1, number(0x402b417e)},
		{sheet("40043c39 be90859f / bdfde128 3eef62af / 3f3a7e29 c010be51"), 2, number(0x3fb6a191)},
		{sheet("bfe74787 c01a5c4d 3f540678 bffd9f2e / 3f955eb4 3fdf5533 3fbea855 4039250f / 3de155a8 3e6c8d0a 3eefc92b 3f1fded3 / 3df164f9 bfb911ea 3f9b257a 3fcaa35b"), 3, number(0x3fb74bb8)},
		{hills(), 1, number(0x3e35448a)},
		{hills(), 2, number(0x3eb1d5a5)},
		{hills(), 8, number(0x3fc5bfd5)},
		{hills(), 16, number(0x4046713e)},
	}
	for _, r := range rows {
		got, ok := impl.VariogramOf(r.s, r.lag)
		wantSum(t, "VariogramOf", got, ok, r.want)
	}
}

func TestVariogramOfFails(t *testing.T) {
	fails := func(what string, s impl.Sheet, lag int64) {
		t.Helper()
		got, ok := impl.VariogramOf(s, lag)
		wantNone(t, "VariogramOf "+what, got, ok)
	}
	for _, s := range wrongSheets() {
		fails("a wrong sheet", s, 1)
	}
	for _, lag := range []int64{0, -1, 17, 18, math.MaxInt64, math.MinInt64} {
		fails("a wrong lag", hills(), lag)
	}
	for side := int64(1); side <= 17; side++ {
		fails("a lag without pairs", flat(side, 1, 1), side)
		fails("a lag without pairs", flat(side, side, 1), side)
		fails("a lag without pairs", flat(1, side, 1), side+1)
	}
	fails("a difference that is not finite", heights(2, mostNumber, -mostNumber), 1)
	fails("a square that is not finite", heights(2, 1e20, 0), 1)
	fails("a sum that is not finite", heights(3, 0, 1.8e19, 0), 1)
}

func TestRoughnessOf(t *testing.T) {
	rows := []struct {
		s    impl.Sheet
		most int64
		want float32
	}{
		{sheet("bf6c3a34 c019dd44 3f04081c"), 2, number(0xbf2fc1a8)},
		{sheet("bfc194f1 / bf84dbeb / 40106e32"), 2, number(0x3f2de4a1)},
		{sheet("3fe25588 402e2d14 3efd734b 3face204 / bfc1f18a 3f405aff 3e98f0bb bfe5f3e0"), 3, number(0xbfb6b652)},
		{sheet("3f528382 3f53ce61 bff46c5f 3fd877d7 bfab0516 / 4015a9cd bfab56bb 401475e5 3fbe7fb1 bf93abbe / c0031a4d 3d0ca42d bf468d01 3f264700 bd37054e / c03393f5 bfa1475d 3e83bdb1 3f936808 bfc0b553 / 3e955646 bfe7ee92 3fbe8ba6 3f483f1e bf9603ed"), 4, number(0xbd729e75)},
		{sheet("c00c5fa6 403a3c3d / bff91343 3ecc641c / c0049636 bfab8236 / bff180e8 400e3b55 / 3db91139 c0170084 / c0313403 3f18993b"), 5, number(0xbe45a20e)},
		{hills(), 16, number(0x3f0878a2)},
	}
	for _, r := range rows {
		got, ok := impl.RoughnessOf(r.s, r.most)
		wantSum(t, "RoughnessOf", got, ok, r.want)
	}
	// An even slope has the roughness 1, nearly, with all lags.
	slope := flat(17, 1, 0)
	for i := range slope.Heights {
		slope.Heights[i] = 0.25 * float32(i)
	}
	for most := int64(2); most <= 16; most++ {
		got, ok := impl.RoughnessOf(slope, most)
		if !ok || math.Abs(float64(got)-1) > 0.0001 {
			t.Errorf("RoughnessOf an even slope is %v, %v with %d lags", got, ok, most)
		}
	}
}

func TestRoughnessOfFails(t *testing.T) {
	fails := func(what string, s impl.Sheet, most int64) {
		t.Helper()
		got, ok := impl.RoughnessOf(s, most)
		wantNone(t, "RoughnessOf "+what, got, ok)
	}
	for _, s := range wrongSheets() {
		fails("a wrong sheet", s, 2)
	}
	for _, most := range []int64{0, 1, -1, 17, 18, math.MaxInt64, math.MinInt64} {
		fails("wrong lags", hills(), most)
	}
	fails("lags without pairs", flat(2, 2, 1), 2)
	fails("lags without pairs", heights(3, 1, 2, 4), 3)
	fails("a flat sheet", flat(5, 5, 1), 2)
	fails("one lag without differences", heights(5, 0, 1, 0, 1, 0), 2)
	fails("a variogram that is not finite", heights(3, 0, 1, 1e20), 2)
}
