package tests

import (
	"testing"

	"loop.example/g01318/impl"
)

// wrongPoints are lists that are no points.
func wrongPoints() [][]complex64 {
	list := [][]complex64{nil, {}, make([]complex64, 257), repeated(complex64(1), 5000)}
	for _, z := range largeOnes() {
		list = append(list, []complex64{z}, []complex64{1, z}, []complex64{z, 1})
	}
	return list
}

var (
	threePoints = []complex64{at(0xbe842e24bf98d1c4), at(0xbfb0b897bf79403e), at(0x3d787233bff6f77e)}
	fivePoints  = []complex64{at(0xbfcc48ec3fa8c91a), at(0x3ff8e989bfca3f7d), at(0x3ddcc1ab3e8352ff), at(0xbeb4343abf835365), at(0xbfb9c8b03f9e38a1)}
)

func TestNearestTo(t *testing.T) {
	most := repeated(complex64(5), 256)
	most[255] = 4
	rows := []struct {
		points []complex64
		z      complex64
		first  int64
		near   float32
	}{
		{[]complex64{0, 3}, 2, 1, 1},
		{[]complex64{3, 0}, 2, 0, 1},
		{[]complex64{complex(3, 4)}, 0, 0, 5},
		{[]complex64{1, -1, 1i, -1i}, 0, 0, 1},
		{[]complex64{2, -1, 1i, -1}, 0, 1, 1},
		{[]complex64{7, 5, 5, 5}, 5, 1, 0},
		{[]complex64{0, complex(minusZero, minusZero)}, complex(minusZero, 0), 0, 0},
		{most, 1, 255, 3},
		// Both are as near once this is rounded to 32 bits.
		{[]complex64{complex(1, 1e-5), 1}, 0, 0, 1},
		{[]complex64{complex(afterOne, 0), 1}, 0, 1, 1},
		{[]complex64{complex(mostSmall, -mostSmall)}, complex(-mostSmall, mostSmall), 0, number(0x4530c6d6)},
		{[]complex64{complex(leastNumber, 0)}, 0, 0, leastNumber},
		{threePoints, at(0x3f6612dc3f83f8fd), 0, number(0x40207ec0)},
		{fivePoints, at(0xbcd30839bebf9876), 2, number(0x3f250a3d)},
	}
	for _, r := range rows {
		first, near, ok := impl.NearestTo(r.points, r.z)
		wantInteger(t, "NearestTo", first, ok, r.first)
		wantSum(t, "how near NearestTo is", near, ok, r.near)
	}
	fails := func(what string, points []complex64, z complex64) {
		t.Helper()
		first, near, ok := impl.NearestTo(points, z)
		wantNone(t, what, first, ok)
		wantNone(t, what, near, ok)
	}
	for _, points := range wrongPoints() {
		fails("NearestTo of no points", points, 1)
	}
	for _, z := range largeOnes() {
		fails("NearestTo a large number", threePoints, z)
	}
}

func TestFarOf(t *testing.T) {
	rows := []struct {
		a, b []complex64
		want float32
	}{
		{[]complex64{0}, []complex64{3, 4i}, 4},
		{[]complex64{0, 10}, []complex64{1, 2, 3, 4, 5, 6, 7, 8, 9}, 5},
		{[]complex64{0, 10}, []complex64{0}, 10},
		{[]complex64{1, 2, 3}, []complex64{3, 1, 2, 1}, 0},
		{[]complex64{complex(mostSmall, mostSmall)}, []complex64{complex(-mostSmall, -mostSmall)}, number(0x4530c6d6)},
		{repeated(complex64(1), 256), repeated(complex64(-1), 256), 2},
		{threePoints, []complex64{at(0x3f3c2346bfad56e3), at(0xbf8ae7283fede59f)}, number(0x40363eae)},
		{fivePoints, []complex64{at(0x3fe05217be936374), at(0xbfb74d383cc405a7), at(0xbfbcddcd3faa8fb8), at(0x3f947b3a3f9e82bf)}, number(0x3fc0cded)},
	}
	for _, r := range rows {
		got, ok := impl.FarOf(r.a, r.b)
		wantSum(t, "FarOf", got, ok, r.want)
		got, ok = impl.FarOf(r.b, r.a)
		wantSum(t, "FarOf, the other way", got, ok, r.want)
	}
	for _, points := range wrongPoints() {
		got, ok := impl.FarOf(points, threePoints)
		wantNone(t, "FarOf no points", got, ok)
		got, ok = impl.FarOf(threePoints, points)
		wantNone(t, "FarOf from no points", got, ok)
	}
}

func TestCollageOf(t *testing.T) {
	rows := []struct {
		list   []impl.Small
		points []complex64
		want   float32
	}{
		{[]impl.Small{half}, []complex64{2}, 1},
		{[]impl.Small{half}, []complex64{0}, 0},
		{[]impl.Small{half}, []complex64{0, 4}, 2},
		{[]impl.Small{{Shift: 1, Share: 0.5}, {Shift: -1, Share: 0.5}}, []complex64{1, -1}, 0},
		{bent(), threePoints, number(0x400d1e09)},
		{triangle(), threePoints, number(0x3f9c4185)},
		{bent(), fivePoints, number(0x400aeb86)},
		{triangle(), fivePoints, number(0x3fa05c35)},
		{[]impl.Small{{Turn: 0.5, Shift: 500, Share: 1}}, []complex64{1000}, 0},
		{[]impl.Small{half}, repeated(complex64(2), 256), 1},
	}
	for _, r := range rows {
		got, ok := impl.CollageOf(r.list, r.points)
		wantSum(t, "CollageOf", got, ok, r.want)
	}
	for _, points := range wrongPoints() {
		got, ok := impl.CollageOf(bent(), points)
		wantNone(t, "CollageOf no points", got, ok)
	}
	for _, list := range wrongLists() {
		got, ok := impl.CollageOf(list, threePoints)
		wantNone(t, "CollageOf a wrong list", got, ok)
	}
	got, ok := impl.CollageOf(bent(), make([]complex64, 86))
	wantNone(t, "CollageOf too many images", got, ok)
	_, ok = impl.CollageOf(bent(), make([]complex64, 85))
	wantBool(t, "CollageOf the most images", ok, true)
	// The image is a point no more.
	got, ok = impl.CollageOf([]impl.Small{{Turn: 0.5, Shift: 501, Share: 1}}, []complex64{1000})
	wantNone(t, "CollageOf with a large image", got, ok)
}

func TestFitSmall(t *testing.T) {
	rows := []struct {
		from, to    []complex64
		flip        bool
		turn, shift complex64
		miss        float32
	}{
		{[]complex64{0, 2}, []complex64{1, 2}, false, 0.5, 1, 0},
		{[]complex64{-2, 0, 2}, []complex64{-1, 3, 1}, false, 0.5, 1, 2},
		{[]complex64{2i, -2i}, []complex64{1, -1}, true, 0.5i, 0, 0},
		{[]complex64{2i, -2i}, []complex64{1, -1}, false, -0.5i, 0, 0},
		{[]complex64{0, 2}, []complex64{complex(1, 1), complex(1, 1)}, false, 0, complex(1, 1), 0}, // a turn of nothing
		{[]complex64{0, 1}, []complex64{0, complex(beforeOne, 0)}, false, complex(beforeOne, 0), 0, 0},
		{[]complex64{at(0xbf95a403bf7be6dd), at(0xbedde43a3d3529fc)}, []complex64{at(0x3c831e24bf1afba0), at(0x3e062889bf3f103d)}, false, at(0xbd1a8883be0e2da0), at(0x3dde40fabf4e0a65), number(0x3383f07b)},
		{[]complex64{at(0x3fd2e4cf3feb6eec), at(0xbf4606003f41f9f7)}, []complex64{at(0x3f9df3f3bf45292b), at(0x3eed6d42bef0b363)}, true, at(0x3e9f6bf83c789c4f), at(0x3f316dbebe63c9b8), number(0x33000000)},
		{[]complex64{at(0xbdc164413d523600), at(0x3eb80fb63d5aae6f), at(0x3fb7fa943f464bb0)}, []complex64{at(0xbf1b3085be875e12), at(0xbf42f1a6bdd0d03e), at(0xbf8d86733ec80ffe)}, false, at(0xbda249023eeeb775), at(0xbf2490dabe6ed116), number(0x3d95032c)},
		{[]complex64{at(0xbe87d347bfbcf46f), at(0xbf906b233f9135bd), at(0x3fbd500c3fd696e6)}, []complex64{at(0xbe93cd07beabe304), at(0x3e63d9e5bf91018e), at(0x3f8d8bc2bedcdc16)}, true, at(0x3e6954813e9e986e), at(0x3e4f1b00bf0a6f41), number(0x3d9b1dea)},
		{[]complex64{at(0x3f6954983fe08c59), at(0x3f0bd2cabf0b36e0), at(0xbe9fede6be881c5e), at(0x3f7e84db3faeebc5), at(0x3fd09bc63e080cd8)}, []complex64{at(0xbf4b180ebf8bea48), at(0xbf861364bbba1f80), at(0xbf07f0bd3e087ed8), at(0xbf81fc9fbf6f2ff1), at(0xbfb917c3bed8ce6a)}, false, at(0xbef9224dbe27dc33), at(0xbf2e13dabdd36640), number(0x3da0dc8c)},
		{[]complex64{at(0xbf928640bf6adf6c), at(0xbe9efe433e7108ae), at(0x3e4dd21bbeaee99b), at(0xbf92422bbe904429), at(0xbf058b77be189de1)}, []complex64{at(0xbea09a57be865e49), at(0xbf21a0fbbf1318a9), at(0xbedba64abf255e79), at(0xbee3667cbedfb742), at(0xbef15a77bedba94f)}, true, at(0x3ce37240be761795), at(0xbf02f990bf1e3f3e), number(0x3dd9196b)},
	}
	for _, r := range rows {
		got, miss, ok := impl.FitSmall(r.from, r.to, r.flip)
		wantBool(t, "FitSmall: success", ok, true)
		wantComplex(t, "the Turn of FitSmall", got.Turn, r.turn)
		wantComplex(t, "the Shift of FitSmall", got.Shift, r.shift)
		wantBool(t, "the Flip of FitSmall", got.Flip, r.flip)
		wantNumber(t, "the Share of FitSmall", got.Share, 1)
		wantSum(t, "the miss of FitSmall", miss, ok, r.miss)
	}
}

// TestFitSmallFindsMaps holds that the map that leads points to points is found, nearly, and misses as told.
func TestFitSmallFindsMaps(t *testing.T) {
	from := spreadOver(3, 256)
	for _, s := range bent() {
		for _, count := range []int{2, 3, 100, 256} {
			to := make([]complex64, count)
			for i := range to {
				to[i], _ = impl.MapSmall(s, from[i])
			}
			got, miss, ok := impl.FitSmall(from[:count], to, s.Flip)
			if !ok || impl.LongOf(got.Turn-s.Turn) > 1e-5 || impl.LongOf(got.Shift-s.Shift) > 1e-5 || miss > 1e-5 {
				t.Errorf("FitSmall of %d points: got %v, %v, %v, want %v", count, got, miss, ok, s)
			}
			to[count/2] += 1
			got, miss, ok = impl.FitSmall(from[:count], to, s.Flip)
			var most float32
			for i, z := range from[:count] {
				place, _ := impl.MapSmall(got, z)
				most = max(most, impl.LongOf(place-to[i]))
			}
			wantSum(t, "the miss of FitSmall", miss, ok, most)
		}
	}
}

func TestFitSmallFails(t *testing.T) {
	fails := func(what string, from, to []complex64) {
		t.Helper()
		for _, flip := range []bool{false, true} {
			got, miss, ok := impl.FitSmall(from, to, flip)
			wantNone(t, what, got, ok)
			wantNone(t, what, miss, ok)
		}
	}
	for _, points := range wrongPoints() {
		fails("FitSmall from no points", points, repeated(complex64(1), len(points)))
		fails("FitSmall to no points", spreadOver(1, 5000)[:len(points)], points)
	}
	fails("FitSmall from more points than to", []complex64{0, 2, 4}, []complex64{1, 2})
	fails("FitSmall from fewer points than to", []complex64{0, 2}, []complex64{1, 2, 3})
	fails("FitSmall of one point", []complex64{1}, []complex64{2})
	fails("FitSmall from one place", []complex64{1, 1}, []complex64{1, 2})
	fails("FitSmall from one place to one place", []complex64{3i, 3i, 3i}, []complex64{1, 1, 1})
	fails("FitSmall from nearly one place", []complex64{0, 1e-30}, []complex64{0, 1e-31})
	fails("FitSmall of a Turn of 1", []complex64{0, 1}, []complex64{0, 1})
	fails("FitSmall of a Turn of 2", []complex64{0, 1}, []complex64{0, 2})
	fails("FitSmall of a Turn that is not finite", []complex64{0, 0x1p-72}, []complex64{0, 1000})
	fails("FitSmall of a large Shift", []complex64{1000, 998}, []complex64{999, 1000})
}

func wantSmalls(t *testing.T, what string, got []impl.Small, ok bool, want []impl.Small) {
	t.Helper()
	if !ok || !impl.SameSmalls(got, want) {
		t.Errorf("%s: got %v, %v, want %v", what, got, ok, want)
	}
}

func TestMixSmalls(t *testing.T) {
	other := []impl.Small{
		{Turn: complex(-0.3, 0.2), Shift: complex(0.1, -0.4), Share: 0.3},
		{Turn: complex(0.11, 0.5), Shift: complex(1.25, 0.3), Flip: true, Share: 0.3},
		{Turn: complex(0.9, -0.1), Shift: complex(-7.5, 2), Share: 0.4},
	}
	quarter := impl.Small{Turn: 0.25, Share: 1}
	rows := []struct {
		a, b  []impl.Small
		share float32
		want  []impl.Small
	}{
		{[]impl.Small{half}, []impl.Small{quarter}, 0.5, []impl.Small{{Turn: 0.375, Share: 1}}},
		{[]impl.Small{half}, []impl.Small{quarter}, 0, []impl.Small{half}},
		{[]impl.Small{half}, []impl.Small{quarter}, minusZero, []impl.Small{half}},
		{[]impl.Small{half}, []impl.Small{quarter}, 1, []impl.Small{quarter}},
		{withShares(0.25, 0.75), withShares(0.75, 0.25), 0.25, withShares(0.375, 0.625)},
		{bent(), bent(), 0.7, bent()},
		{
			[]impl.Small{{Turn: 0.5i, Shift: complex(2, mostSmall), Flip: true, Share: 1}},
			[]impl.Small{{Turn: -0.5i, Shift: complex(4, -mostSmall), Flip: true, Share: 1}}, 0.25,
			[]impl.Small{{Turn: 0.25i, Shift: complex(2.5, 500), Flip: true, Share: 1}},
		},
		{bent(), other, 0.3, []impl.Small{
			{Turn: at(0x3e49ba5dbe4bc6a8), Shift: at(0x3f1c6a7f3cdd2f10), Share: number(0x3ecf5c29)},
			{Turn: at(0xbecd4fdf3e76c8b4), Shift: at(0x3e051eba3fa3d70a), Flip: true, Share: number(0x3e6b851f)},
			{Turn: at(0x3e9c28f63eef1a9e), Shift: at(0xbffc28f7bcf5c260), Share: number(0x3ebae148)},
		}},
		{bent(), other, 0.77, []impl.Small{
			{Turn: at(0xbe0bfb163d8d1b70), Shift: at(0x3e892a32be84f766), Share: number(0x3eab4396)},
			{Turn: at(0xbd6d28903ed46dc6), Shift: at(0x3f61cac03f1f3b64), Flip: true, Share: number(0x3e8dd2f2)},
			{Turn: at(0x3f345a1c3db0be10), Shift: at(0xc0b5db223faa9fbf), Share: number(0x3ec6e979)},
		}},
	}
	for _, r := range rows {
		got, ok := impl.MixSmalls(r.a, r.b, r.share)
		wantSmalls(t, "MixSmalls", got, ok, r.want)
	}
}

func TestMixSmallsFails(t *testing.T) {
	for _, list := range wrongLists() {
		got, ok := impl.MixSmalls(list, repeated(impl.Small{Share: 0.5}, len(list)), 0.5)
		wantNoList(t, "MixSmalls of a wrong list", got, ok)
		got, ok = impl.MixSmalls(list, list, 0)
		wantNoList(t, "MixSmalls of wrong lists", got, ok)
		got, ok = impl.MixSmalls(withShares(0.5, 0.5), list, 0)
		wantNoList(t, "MixSmalls with a wrong list", got, ok)
	}
	for _, share := range []float32{-leastNumber, -1, afterOne, 2, inf, minusInf, nan, otherNaN} {
		got, ok := impl.MixSmalls(bent(), bent(), share)
		wantNoList(t, "MixSmalls of a wrong share", got, ok)
	}
	for i := range 3 {
		flipped := bent()
		flipped[i].Flip = !flipped[i].Flip
		got, ok := impl.MixSmalls(bent(), flipped, 0.5)
		wantNoList(t, "MixSmalls of other Flips", got, ok)
	}
	got, ok := impl.MixSmalls(withShares(0.5, 0.5), withShares(1), 0.5)
	wantNoList(t, "MixSmalls with a shorter list", got, ok)
	got, ok = impl.MixSmalls(withShares(1), withShares(0.5, 0.5), 0.5)
	wantNoList(t, "MixSmalls with a longer list", got, ok)
	// The sums of both lists are as little as they may be, and that of the mixed one is less.
	a := withShares(number(0x3e82da9a), number(0x3f3e512a))
	b := withShares(number(0x3e78323f), number(0x3f41b1e7))
	wantBool(t, "AreSmalls of both lists", impl.AreSmalls(a) && impl.AreSmalls(b), true)
	got, ok = impl.MixSmalls(a, b, number(0x3e8d77d4))
	wantNoList(t, "MixSmalls to Shares that fall too short", got, ok)
}

func TestAddressOf(t *testing.T) {
	nothing := impl.Small{Turn: complex(minusZero, 0), Shift: 0.1, Share: 0.5}
	double := impl.Small{Turn: 0.5, Share: 0.5}
	// It leads 1 + 0.00001 i to 0, the length of which is 1, as it is rounded.
	besides := impl.Small{Turn: 0.5, Shift: complex(-0.5, -5e-6), Share: 0.5}
	beside := impl.Small{Turn: 0.5, Shift: -0.5, Share: 0.5}
	sharp := impl.Small{Turn: 0x1p-130, Share: 0.5}
	rows := []struct {
		list []impl.Small
		z    complex64
		want []int64
	}{
		{[]impl.Small{half}, 1, []int64{0, 0, 0}},
		{[]impl.Small{half}, 1, nil},
		{[]impl.Small{double, double}, 0.01, []int64{0, 0, 0}},
		{[]impl.Small{{Turn: 0.25, Share: 0.5}, double}, 0.01, []int64{1, 1, 1, 1}},
		{[]impl.Small{double, {Turn: 0.25, Share: 0.5}}, 0.01, []int64{0, 0, 0, 0}},
		{[]impl.Small{double, {Turn: 0.5, Shift: 1, Share: 0.5}}, 1, []int64{1, 0, 0}},
		{[]impl.Small{{Turn: 0.5i, Share: 0.5}, {Turn: 0.5, Shift: -1, Flip: true, Share: 0.5}}, complex(-1, 0.25), []int64{1, 0}},
		{[]impl.Small{nothing, double}, 0.1, []int64{1, 1, 1}},
		{[]impl.Small{double, nothing}, 0.1, []int64{0, 0, 0}},
		{[]impl.Small{besides, beside}, 0, []int64{0}},
		{[]impl.Small{beside, besides}, 0, []int64{0}},
		{[]impl.Small{half}, 1000 * 0x1p-24, make([]int64, 24)},
		// What leads back to no finite number is not the nearest, unless it is at the same place.
		{[]impl.Small{sharp, double}, 1, []int64{1, 1}},
		{[]impl.Small{double, sharp}, 1, []int64{0, 0}},
		{[]impl.Small{sharp, double}, 0, []int64{0, 0}},
		{bent(), at(0x3f139126bfa7f890), []int64{2, 2, 1, 2, 1, 1}},
		{bent(), at(0x3f25a1a1bf04adbe), []int64{2, 2, 0}},
		{bent(), at(0xbf2621bd3f6278c4), []int64{1, 2, 2, 0, 1, 0}},
		{bent(), at(0x3f91da26bf8f7edd), []int64{2, 2, 1, 2, 1, 2}},
		{triangle(), at(0x3f7d0678bf40f3d2), []int64{1, 1, 1}},
		{triangle(), at(0x3f9e292ebf8fc9c8), []int64{1, 1, 1}},
		{triangle(), at(0xbf79f9c5bfb9f3eb), []int64{0, 0, 0}},
		{triangle(), at(0x3e88ff423cf8eb40), []int64{1, 0, 0, 0, 0, 0}},
	}
	for _, r := range rows {
		got, ok := impl.AddressOf(r.list, r.z, int64(len(r.want)))
		wantIntegers(t, "AddressOf", got, ok, r.want)
	}
}

// TestAddressesLeadBack holds that an address leads to a number from where its maps led it back, nearly.
func TestAddressesLeadBack(t *testing.T) {
	for _, z := range spreadOver(1, 60) {
		for _, list := range [][]impl.Small{bent(), triangle()} {
			word, ok := impl.AddressOf(list, z, 5)
			if !ok {
				t.Fatalf("AddressOf %v fails", z)
			}
			start := z
			for _, index := range word {
				start, _ = impl.BackSmall(list[index], start)
			}
			if end, ok := impl.WordPlace(list, word, start); !ok || impl.LongOf(end-z) > 1e-4 {
				t.Errorf("the address %v of %v leads to %v", word, z, end)
			}
		}
	}
}

func TestAddressOfFails(t *testing.T) {
	fails := func(what string, list []impl.Small, z complex64, long int64) {
		t.Helper()
		got, ok := impl.AddressOf(list, z, long)
		wantNoList(t, what, got, ok)
	}
	for _, list := range wrongLists() {
		fails("AddressOf a wrong list", list, 1, 2)
		fails("AddressOf a wrong list and no indices", list, 1, 0)
	}
	for _, z := range largeOnes() {
		fails("AddressOf a large number", bent(), z, 2)
		fails("AddressOf a large number and no indices", bent(), z, 0)
	}
	for _, long := range []int64{-1, 25, 1 << 60, -1 << 63} {
		fails("AddressOf a wrong length", bent(), 0.5, long)
	}
	nothing := []impl.Small{{Shift: 1, Share: 0.5}, {Turn: complex(0, minusZero), Share: 0.5}}
	for long := int64(0); long <= 3; long++ {
		fails("AddressOf with turns of nothing", nothing, 0, long)
	}
	// Each number must be small, the last one too.
	fails("AddressOf over a large number", []impl.Small{half}, 1000, 1)
	fails("AddressOf over a large number", []impl.Small{half}, 500, 2)
	got, ok := impl.AddressOf([]impl.Small{half}, 500, 1)
	wantIntegers(t, "AddressOf up to the bound", got, ok, []int64{0})
	fails("AddressOf what is not finite", []impl.Small{{Turn: 0x1p-130, Share: 1}}, 1, 1)
}
