package tests

import (
	"math"
	"slices"
	"testing"

	"loop.example/g01318/impl"
)

// scattered is the list of masses of the greatest length; their sum is no 32-bit number.
func scattered() []int64 {
	masses := make([]int64, 256)
	for i := range masses {
		masses[i] = int64(i) * 390637 % 1000001
	}
	return masses
}

// wrongMasses are lists that are no masses.
func wrongMasses() [][]int64 {
	return [][]int64{
		nil, {}, {0}, {0, 0, 0}, make([]int64, 256), {-1}, {-1, 2}, {2, -1}, {1000001}, {1, 1000001}, {1000001, 1, 1},
		repeated(int64(1), 257), repeated(int64(1), 5000), {math.MaxInt64}, {math.MinInt64}, {math.MaxInt64, math.MaxInt64, 2}, {1 << 62, 1 << 62, 1 << 62, 1 << 62, 5},
	}
}

func TestSpectrumOf(t *testing.T) {
	half, three := []int64{1, 1}, []int64{1, 2, 3}
	uneven := append(repeated(int64(999999), 17), 3, 3)
	many := []int64{459, 107, 827, 180, 589, 111, 970, 950, 828}
	rows := []struct {
		masses []int64
		power  float32
		want   uint32
	}{
		{half, 0, 0xbf317218}, {half, minusZero, 0xbf317218}, {half, 1, 0xbf317218}, {half, 2, 0xbf317218}, {half, -1, 0xbf317218},
		{half, 0.5, 0xbf317217}, {half, number(0x4099ec98), 0xbf317218}, {half, 100, 0xbf317219},
		// Beside 1, small differences are lost.
		{half, afterOne, 0xbf000000}, {half, beforeOne, 0x80000000}, {three, afterOne, 0xbf800001}, {three, beforeOne, 0x80000000},
		// The least and the greatest powers with sums that are finite and greater than 0.
		{half, -126, 0xbf317218}, {half, 150, 0xbf304139},
		// A single mass is not spread; nothing divided by a negative number has a sign.
		{[]int64{5}, 0, 0x80000000}, {[]int64{5}, 1, 0}, {[]int64{5}, 2, 0}, {[]int64{0, 5, 0}, -3, 0x80000000},
		{[]int64{5}, mostNumber, 0}, {[]int64{5}, -mostNumber, 0x80000000},
		{three, 0, 0xbf8c9f54}, {three, 1, 0xbf8175b2}, {three, 2, 0xbf71c83c}, {three, -1, 0xbf99771e}, {three, number(0x40aa2518), 0xbf53e5be},
		// Masses that are 0 do not count.
		{[]int64{0, 7, 0, 1}, 0, 0xbf317218}, {[]int64{0, 7, 0, 1}, 1, 0xbec0e805}, {[]int64{7, 1}, 1, 0xbec0e805}, {[]int64{0, 7, 0, 1}, number(0xc0a3ef9e), 0xbfdeb2ff},
		{[]int64{1000000, 1, 999999}, 1, 0xbf317294}, {[]int64{1000000, 1, 999999}, 0.5, 0xbf31b395}, {[]int64{1000000, 1, 999999}, number(0xc0009d88), 0xc11b0198},
		{repeated(int64(1000000), 3), number(0x402623f4), 0xbf8c9f55},
		{many, 0, 0xc00c9f54}, {many, 1, 0xbffdc61e}, {many, 2, 0xbff1502d}, {many, -1, 0xc022d360}, {many, number(0x409bcca6), 0xbfe5262f},
		// The sum of these masses is rounded before they are divided by it.
		{uneven, 0.5, 0xc0355a0a}, {uneven, 2, 0xc0355360}, {uneven, 3, 0xc035535f}, {uneven, 7, 0xc035535f},
		{scattered(), 0, 0xc0b15208}, {scattered(), 1, 0xc0ab0ea5}, {scattered(), 2, 0xc0a80922},
		{scattered(), -3, 0xc111219c}, {scattered(), 0.5, 0xc0ad7703}, {scattered(), 7, 0xc0a27505},
		{repeated(int64(1000000), 256), 1, 0xc0b17206}, {repeated(int64(1000000), 256), 0, 0xc0b17218},
		{append(make([]int64, 255), 1), 0, 0x80000000},
	}
	for _, r := range rows {
		got, ok := impl.SpectrumOf(r.masses, r.power)
		wantSum(t, "SpectrumOf", got, ok, number(r.want))
	}
}

func TestGapRatio(t *testing.T) {
	rows := []struct {
		masses []int64
		want   float32
	}{
		{[]int64{1, 3}, 1.25},
		{[]int64{0, 1}, 2},
		{[]int64{7, 7, 7}, 1},
		{[]int64{5}, 1},
		{append(make([]int64, 255), 1), 256},
		{append([]int64{1000000}, make([]int64, 255)...), 256},
		{[]int64{1000000, 1, 999999}, number(0x3fbffff3)},
		{[]int64{932, 875, 10, 345, 427, 257, 327, 136, 292}, number(0x3fc48d5e)},
		{[]int64{389009, 616936, 896562, 711549, 380511, 234151, 5616, 817920, 319735, 185228, 86539, 427450}, number(0x3fb56aac)},
		// Sums of many are rounded on the way, so that equal masses need not have 1.
		{repeated(int64(1000000), 256), number(0x3f800013)},
		{scattered(), number(0x3fabc244)},
	}
	for _, r := range rows {
		got, ok := impl.GapRatio(r.masses)
		wantSum(t, "GapRatio", got, ok, r.want)
	}
}

func TestMassesFail(t *testing.T) {
	for _, masses := range wrongMasses() {
		for _, power := range []float32{0, 1, 2} {
			got, ok := impl.SpectrumOf(masses, power)
			wantNone(t, "SpectrumOf no masses", got, ok)
		}
		got, ok := impl.GapRatio(masses)
		wantNone(t, "GapRatio of no masses", got, ok)
	}
	for _, power := range endlessNumbers() {
		got, ok := impl.SpectrumOf([]int64{1, 2}, power)
		wantNone(t, "SpectrumOf a wrong power", got, ok)
	}
	for _, power := range []float32{-127, 152, 1e20, -1e20, mostNumber, -mostNumber} {
		got, ok := impl.SpectrumOf([]int64{1, 1}, power)
		wantNone(t, "SpectrumOf with a sum that has no finite logarithm", got, ok)
	}
}

func TestCantorSet(t *testing.T) {
	rows := []struct {
		deep int64
		want string
	}{
		{0, "00000000"},
		{1, "00000000 3f2aaaab"},
		{2, "00000000 3e638e39 3f2aaaab 3f638e39"},
		{3, "00000000 3d97b426 3e638e39 3e97b426 3f2aaaab 3f3da130 3f638e39 3f7684be"},
	}
	for _, r := range rows {
		got, ok := impl.CantorSet(r.deep)
		wantNumbers(t, "CantorSet", got, ok, numbers(r.want))
	}
	for i, want := range []uint32{0, 0x3f2aaaab, 0x19471ce7, 0x43d5c27d, 0x1ff810c6, 0xe2db2317, 0x31285534, 0xe9da6058, 0x92df1247} {
		got, ok := impl.CantorSet(int64(i))
		if !ok || len(got) != 1<<i || digest(got) != want || !slices.IsSorted(got) {
			t.Errorf("CantorSet %d: got %v, %v", i, got, ok)
		}
	}
	for _, deep := range []int64{-1, 9, 64, math.MaxInt64, math.MinInt64} {
		got, ok := impl.CantorSet(deep)
		wantNoList(t, "CantorSet of a wrong depth", got, ok)
	}
}

func TestStairsAt(t *testing.T) {
	rows := []struct {
		x    float32
		deep int64
		want float32
	}{
		{0, 32, 0}, {minusZero, 32, 0}, {minusZero, 0, 0}, {1, 0, 0}, {0.5, 0, 0}, {leastNumber, 32, 0},
		{1, 1, 0.5}, {1, 5, 0.96875}, {1, 24, beforeOne}, {1, 25, 1}, {1, 32, 1},
		// All of the middle part is at the same height, its ends included.
		{0.5, 1, 0.5}, {0.5, 9, 0.5}, {number(0x3eaaaaab), 1, 0.5}, {number(0x3eaaaaab), 32, 0.5}, {number(0x3f2aaaab), 32, 0.5}, {number(0x3f1f5c42), 32, 0.5},
		{number(0x3eaaaaac), 3, 0.5}, {number(0x3f2aaaaa), 2, 0.5},
		{number(0x3eaaaaaa), 32, number(0x3efffe00)}, {number(0x3f2aaaac), 32, number(0x3f000200)}, {beforeOne, 32, number(0x3f7ffe00)},
		{0.25, 8, 0.33203125}, {0.25, 32, number(0x3eaaaaaa)}, {0.75, 32, number(0x3f2aaaaa)}, {0.75, 1, 0.5}, {0.25, 1, 0}, {0.25, 2, 0.25},
		{0.1, 32, number(0x3e4ccd00)}, {0.9, 5, 0.78125}, {number(0x3f44ab20), 7, 0.703125}, {number(0x3f6d3723), 32, 0.875},
	}
	for _, r := range rows {
		got, ok := impl.StairsAt(r.x, r.deep)
		wantSum(t, "StairsAt", got, ok, r.want)
	}
	for _, x := range append(endlessNumbers(), -leastNumber, afterOne, -1, 2, mostNumber) {
		for _, deep := range []int64{0, 1, 32} {
			got, ok := impl.StairsAt(x, deep)
			wantNone(t, "StairsAt a wrong number", got, ok)
		}
	}
	for _, deep := range []int64{-1, 33, math.MaxInt64, math.MinInt64} {
		got, ok := impl.StairsAt(0.25, deep)
		wantNone(t, "StairsAt a wrong depth", got, ok)
	}
}

// TestStairsNeverFall holds that more of the set is left of what is farther right.
func TestStairsNeverFall(t *testing.T) {
	for deep := range int64(33) {
		var before float32
		for i := range 2000 {
			got, ok := impl.StairsAt(float32(i)/1999, deep)
			if !ok || got < before || got > 1 {
				t.Errorf("StairsAt %d of 1999 is %v, %v, behind %v", i, got, ok, before)
			}
			before = got
		}
	}
}

func TestGapsOf(t *testing.T) {
	rows := []struct{ list, want string }{
		{"", ""},
		{"40400000", ""},
		{"40400000 00000000 3f800000", "3f800000 40000000"},
		{"3f800000 40400000", "40000000"},
		// Equal numbers have no gap, and equal zeros go in the order of their indices.
		{"40400000 40400000 40400000", "00000000 00000000"},
		{"40000000 bf800000 40000000 bf800000", "00000000 40400000 00000000"},
		{"80000000 00000000", "00000000"},
		{"00000000 80000000", "80000000"},
		{"00000000 80000000 00000000 80000000", "80000000 00000000 80000000"},
		{"80000000 80000000", "00000000"},
		{"3f800000 00000000 bf800000 80000000", "3f800000 80000000 3f800000"},
		{"3f800000 80000000 bf800000 00000000", "3f800000 00000000 3f800000"},
		{"00000001 00000000", "00000001"},
		{"7f7fffff 00000000 ff7fffff", "7f7fffff 7f7fffff"},
		{"c01dbd72 bf37b385", "3fdfa122"},
		{"c00fab71 401d999e 400164f8", "40888834 3ee1a530"},
		{"3df35d48 402e5a17 3df93027 3fd44ae1 bd92c718", "3e431230 3b3a5be0 3fc4b7df 3f88694d"},
		{"bf507e43 403ddac0 400336aa 3f0cd2b2 400d03d1 3f658b46 3fe4b17b c02660d5 c00d8104", "3ec6fe88 3fb2c2e6 3faea87a 3eb17128 3f63d7b0 3e86ef64 3e1cd270 3f435bbc"},
	}
	for _, r := range rows {
		got, ok := impl.GapsOf(numbers(r.list))
		wantNumbers(t, "GapsOf "+r.list, got, ok, numbers(r.want))
	}
	got, ok := impl.GapsOf(eventful())
	if !ok || len(got) != 255 || digest(got) != 0xe8c810ce {
		t.Errorf("GapsOf the greatest list: got %v, %v", got, ok)
	}
}

// TestGapsOfZeros holds that equal zeros keep their order in lists that are too long to be sorted simply.
func TestGapsOfZeros(t *testing.T) {
	list := make([]float32, 256)
	for i := range list {
		list[i] = float32(i*37%5 - 2)
		if list[i] == 0 && i%3 == 1 {
			list[i] = minusZero
		}
	}
	var sorted []float32
	for level := float32(-2); level <= 2; level++ {
		for _, x := range list {
			if x == level {
				sorted = append(sorted, x)
			}
		}
	}
	want := make([]float32, 255)
	for i := range want {
		want[i] = sorted[i+1] - sorted[i]
	}
	got, ok := impl.GapsOf(list)
	wantNumbers(t, "GapsOf zeros", got, ok, want)
}

func TestGapsOfFails(t *testing.T) {
	for _, list := range wrongNumbers() {
		got, ok := impl.GapsOf(list)
		wantNoList(t, "GapsOf no list", got, ok)
	}
	got, ok := impl.GapsOf([]float32{mostNumber, -mostNumber})
	wantNoList(t, "GapsOf that are not finite", got, ok)
	got, ok = impl.GapsOf([]float32{3e38, -2e38, 1, -3e38, -1e38})
	wantNumbers(t, "GapsOf that are just finite", got, ok, numbers("7e96769a 7e967699 7e967699 7f61b1e6"))
}

func TestSetDistance(t *testing.T) {
	far := complex(mostNumber, 0)
	rows := []struct {
		a, b []complex64
		want float32
	}{
		{[]complex64{0}, []complex64{0, 5}, 5},
		{[]complex64{0, 5}, []complex64{0}, 5},
		{[]complex64{0, 5}, []complex64{5, 0, 5, 0}, 0},
		{[]complex64{0, 1, 2}, []complex64{1}, 1},
		{[]complex64{0}, []complex64{complex(minusZero, minusZero)}, 0},
		{[]complex64{0, 10}, []complex64{1, 8, 20}, 10},
		{[]complex64{0, 3 + 4i}, []complex64{0}, 5},
		{[]complex64{0}, []complex64{complex(0, leastNumber)}, leastNumber},
		// Farther points need not be at a finite distance.
		{[]complex64{far, -far}, []complex64{-far, far}, 0},
		{[]complex64{far, -far, 0}, []complex64{1, -far, far}, 1},
		{line("c015fcb53f1e6203"), line("3fa8b288c0046f2e"), number(0x409159d9)},
		{line("3cfc813cc0146108 3f900ddf3fd64b14"), line("c01eb812403852dd 3f7d480ac0100bef bf64cd8ec0033b79"), number(0x40734f87)},
		{line("3faf13864020076b bff97f6ebff2a9c0 3f45f678400a0c86 3fb784b2be81bd3e c015903b3f2f4b13"), line("be8885ac3fe94cd1 3edce35b3fb3b32e"), number(0x408233f0)},
		{line("4034e6d23f41846d 401e152bbfad993f c03f69424012d7cb c0348716403d8e5e be87f3b1c02877a0 bfad10023fa9f6f2"), line("bf3211103f3e3663 c018dbd84000e31b bf42d6583fff926b c0076f273f807c55 be3e6063bf12cf83 c038936b3e42d642 4001cf63c0181ca5"), number(0x404ee611)},
		{repeated(complex64(1), 256), repeated(complex64(1i), 256), number(0x3fb504f3)},
	}
	for _, r := range rows {
		got, ok := impl.SetDistance(r.a, r.b)
		wantSum(t, "SetDistance", got, ok, r.want)
		got, ok = impl.SetDistance(r.b, r.a)
		wantSum(t, "SetDistance back", got, ok, r.want)
	}
	halves := make([]float32, 256)
	for i, y := range otherwise() {
		halves[i] = y / 2
	}
	got, ok := impl.SetDistance(cloudOf(eventful(), otherwise()), cloudOf(halves, eventful()))
	wantSum(t, "SetDistance of clouds", got, ok, number(0x4141f6f1))
}

func TestSetDistanceFails(t *testing.T) {
	fails := func(what string, a, b []complex64) {
		t.Helper()
		got, ok := impl.SetDistance(a, b)
		wantNone(t, "SetDistance "+what, got, ok)
		got, ok = impl.SetDistance(b, a)
		wantNone(t, "SetDistance back "+what, got, ok)
	}
	for _, points := range append(wrongLines(), nil, []complex64{}) {
		fails("of no points", points, []complex64{0, 1})
		fails("of no points", points, points)
	}
	far := complex(mostNumber, 0)
	fails("that is not finite", []complex64{far}, []complex64{-far})
	fails("that is not finite", []complex64{far, -far}, []complex64{-far})
	fails("that is not finite", []complex64{complex(0, mostNumber), 0}, []complex64{complex(0, -mostNumber)})
}
