package tests

import (
	"testing"

	"loop.example/g01318/impl"
)

func wantList(t *testing.T, what string, got []complex64, ok bool, want []complex64) {
	t.Helper()
	if !ok || len(got) != len(want) {
		t.Errorf("%s: got %v, %v, want %v", what, got, ok, want)
		return
	}
	for i := range got {
		wantComplex(t, what, got[i], want[i])
	}
}

func wantIntegers(t *testing.T, what string, got []int64, ok bool, want []int64) {
	t.Helper()
	same := ok && len(got) == len(want)
	for i := 0; same && i < len(got); i++ {
		same = got[i] == want[i]
	}
	if !same {
		t.Errorf("%s: got %v, %v, want %v", what, got, ok, want)
	}
}

func wantInteger(t *testing.T, what string, got int64, ok bool, want int64) {
	t.Helper()
	if !ok || got != want {
		t.Errorf("%s: got %d, %v, want %d", what, got, ok, want)
	}
}

// The seeds 12 and 0 are followed by seeds for which the opposite is taken, and is not.
const (
	oddSeed  = 12
	evenSeed = 0
)

func TestInverseWalk(t *testing.T) {
	rows := []struct {
		c, z complex64
		seed int64
		walk []complex64
		last int64
	}{
		{0, 1, evenSeed, []complex64{1}, 12345},
		{0, 1, oddSeed, []complex64{complex(-1, minusZero)}, 357293397},
		{0, complex(1, -1), 5, nil, 5},
		{-1, 3, evenSeed, []complex64{2}, 12345},
		{1, -3, evenSeed, []complex64{complex(0, 2)}, 12345},
		{1, complex(-3, minusZero), evenSeed, []complex64{complex(0, 2)}, 12345},
		{complex(0, 4), 3, evenSeed, []complex64{complex(2, -1)}, 12345},
		{complex(0, -4), 3, evenSeed, []complex64{complex(2, 1)}, 12345},
		{complex(0, 4), -3, evenSeed, []complex64{complex(1, -2)}, 12345},
		{complex(0, 4), 3, oddSeed, []complex64{complex(-2, 1)}, 357293397},
		{complex(0.5, 0.25), complex(0.5, 0.25), evenSeed, []complex64{0}, 12345},
		{complex(0.5, 0.25), complex(0.5, 0.25), oddSeed, []complex64{complex(minusZero, minusZero)}, 357293397},
		{0, complex(1, -leastNumber), evenSeed, []complex64{complex(1, minusZero)}, 12345},
		{complex(-mostSmall, 0), complex(mostSmall, 0), evenSeed, []complex64{complex(number(0x4232e2ac), 0)}, 12345},
		{at(0x3f63fc163cbfcf30), at(0x3d7005a83e8a0d3d), 135487068, []complex64{at(0xbe08c052bf6bfe1f), at(0xbedc16b73f8cbc4a), at(0xbee00a04bf9d634f), at(0x3eff6e4fbfa0be06), at(0xbf30141a3f6e0f5e)}, 950924001},
		{at(0x3ec815f43f347532), at(0x3fb94b903f33a5eb), 768810832, []complex64{at(0x3f839636baca62c2), at(0x3f642855becaec42), at(0x3f6cb7f4bf1870f3), at(0x3f7c1af2bf29055d), at(0xbf829f363f2b3b5e)}, 2065140997},
		{at(0x3f49fb153f34637c), at(0xbf365fa33fb78844), 225742169, []complex64{at(0xbe944405bfa12901), at(0xbf431e693fa4e426), at(0x3e6be65e3fa21f80), at(0xbeaf08d7bf5266c5), at(0x3f1ebb43bf9d90b2)}, 573197610},
		{at(0x3f14aab83dacd7d6), at(0x3d8fe7edbedb62c7), 1933074308, []complex64{at(0xbea725ff3f4917cc), at(0x3eb11fac3f81b550), at(0x3f19f5a93f45b68a), at(0xbf18697bbf13e677), at(0x3e96d5dfbf8fd7fc)}, 452622697},
	}
	for _, r := range rows {
		walk, last, ok := impl.InverseWalk(r.c, r.z, int64(len(r.walk)), r.seed)
		wantList(t, "InverseWalk", walk, ok, r.walk)
		wantInteger(t, "the seed of InverseWalk", last, ok, r.last)
	}
}

// TestWalksGoBack holds that a square leads a walk back, nearly, for the most points too.
func TestWalksGoBack(t *testing.T) {
	for i, c := range spreadOver(1.5, 40) {
		walk, last, ok := impl.InverseWalk(c, complex(0.5, -1), 256, int64(i)*50000000)
		if !ok || len(walk) != 256 || last < 0 || last > 2147483647 {
			t.Fatalf("InverseWalk %v: %d points, the seed %d, %v", c, len(walk), last, ok)
		}
		before := complex64(complex(0.5, -1))
		for _, z := range walk {
			if back, _ := impl.MapOnce(square(c), z); impl.LongOf(back-before) > 0.001 {
				t.Errorf("a square with %v leads %v to %v and not to %v", c, z, back, before)
			}
			before = z
		}
		first, middle, _ := impl.InverseWalk(c, complex(0.5, -1), 100, int64(i)*50000000)
		rest, again, _ := impl.InverseWalk(c, first[99], 156, middle)
		wantList(t, "a walk in two parts", append(first, rest...), true, walk)
		wantInteger(t, "the seed of a walk in two parts", again, true, last)
	}
}

func TestInverseWalkFails(t *testing.T) {
	fails := func(what string, c, z complex64, count, seed int64) {
		walk, last, ok := impl.InverseWalk(c, z, count, seed)
		wantNoList(t, what, walk, ok)
		wantNone(t, what, last, ok)
	}
	for _, x := range largeOnes() {
		fails("InverseWalk with a large C", x, 0, 3, 1)
		fails("InverseWalk from a large number", 0, x, 3, 1)
		fails("InverseWalk of no points", 0, x, 0, 1)
	}
	for _, count := range []int64{-1, 257, 1 << 50, -1 << 63} {
		fails("InverseWalk with a wrong count", 0, 1, count, 1)
	}
	for _, seed := range []int64{-1, 2147483648, 1<<63 - 1, -1 << 63} {
		fails("InverseWalk with a wrong seed", 0, 1, 3, seed)
	}
	walk, last, ok := impl.InverseWalk(0, 1, 0, 2147483647)
	wantList(t, "InverseWalk with the greatest seed", walk, ok, nil)
	wantInteger(t, "InverseWalk with the greatest seed", last, ok, 2147483647)
	_, last, ok = impl.InverseWalk(0, 1, 1, 2147483647)
	wantInteger(t, "after the greatest seed", last, ok, 1043980748)
}

func TestRootStep(t *testing.T) {
	rows := []struct {
		n       int64
		z, want complex64
	}{
		{2, 2, 1.25},
		{2, 1, 1},
		{2, complex(0, 1), 0},
		{3, 1, 1},
		{4, complex(0, 1), complex(minusZero, 1)},
		{3, 2, complex(number(0x3fb55555), 0)},
		{6, -1, complex(-1, minusZero)},
		{2, complex(1, minusZero), complex(1, 0)},
		{2, complex(mostSmall, 0), complex(number(0x43fa0010), 0)},
		{6, complex(mostSmall, mostSmall), at(0x4450555544505555)},
		{2, at(0x437d9a4944320817), at(0x42fd9a6543b20802)},
		{3, at(0x3e0a44eabe1e5815), at(0xbf79c8ad40f77e4c)},
		{4, at(0x3f2da84b3e8b487d), at(0x3f461406bec2051d)},
		{5, at(0xbec80d94bf90ff17), at(0xbe942157bf4fe2b3)},
		{6, at(0xbf4c9a893f6b3bed), at(0xbf23c0503f52743c)},
		{3, at(0x4436309643c44523), at(0x43f2eb734382d8c3)},
		{5, at(0x3fa94670bece9df0), at(0x3f8a0ecebe8b5699)},
		{2, complex(0x1p-100, 0), complex(0x1p99, 0)}, // what is returned may be large
	}
	for _, r := range rows {
		got, ok := impl.RootStep(r.n, r.z)
		wantComplexSum(t, "RootStep", got, ok, r.want)
	}
	for n := int64(2); n <= 6; n++ {
		for _, z := range []complex64{0, complex(minusZero, minusZero), complex(leastNumber, 0), complex(0, -leastNumber)} {
			got, ok := impl.RootStep(n, z)
			wantNone(t, "RootStep from zero or nearly", got, ok)
		}
		for _, z := range largeOnes() {
			got, ok := impl.RootStep(n, z)
			wantNone(t, "RootStep from a large number", got, ok)
		}
	}
	for _, n := range []int64{0, 1, -2, 7, 1 << 32, -1 << 63, 1<<63 - 1} {
		got, ok := impl.RootStep(n, 2)
		wantNone(t, "RootStep with a wrong n", got, ok)
	}
}

func TestRootOf(t *testing.T) {
	rows := []struct {
		n        int64
		z        complex64
		k, steps int64
	}{
		{2, 1, 0, 0}, {2, -1, 1, 0}, {4, complex(0, 1), 1, 0}, {4, complex(0, -1), 3, 0}, {6, -1, 3, 0},
		{2, at(0xbf50156f3f65ef6e), 1, 4},
		{3, at(0xbfb5ba903fae5503), 1, 4},
		{4, at(0x3f52047e3e9a5740), 0, 4},
		{5, at(0xbe6c2f65bf9d0b84), 4, 9},
		{6, at(0x3f30a05e3f068245), 1, 13},
		{2, at(0xbf50d96ebd21ca74), 1, 2},
		{3, at(0xbf15dd27bf4b1d88), 2, 2},
		{4, at(0x3ee1bee7bd0a910a), 0, 8},
		{5, at(0xbf24927342b3885b), 1, 23},
		{6, at(0x3fac7837bf85bdb8), 5, 9},
		{6, at(0x3f72faa8bfacd84d), 5, 5},
		// The nearest 32-bit number to 0.001 is near enough, and the next one is not.
		{2, complex(1, number(0x3a83126f)), 0, 0},
		{2, complex(1, number(0x3a831270)), 0, 1},
		{2, complex(1, -number(0x3a83126f)), 0, 0},
	}
	for _, r := range rows {
		for most := r.steps; most <= 128; most++ {
			k, steps, ok := impl.RootOf(r.n, r.z, most)
			wantInteger(t, "RootOf", k, ok, r.k)
			wantInteger(t, "the steps of RootOf", steps, ok, r.steps)
		}
		for most := int64(-1); most < r.steps; most++ {
			k, steps, ok := impl.RootOf(r.n, r.z, most)
			wantNone(t, "RootOf with too few steps", k, ok)
			wantNone(t, "the steps of RootOf with too few", steps, ok)
		}
	}
}

func TestRootOfFails(t *testing.T) {
	fails := func(what string, n int64, z complex64, most int64) {
		k, steps, ok := impl.RootOf(n, z, most)
		wantNone(t, what, k, ok)
		wantNone(t, what, steps, ok)
	}
	for n := int64(2); n <= 6; n++ {
		fails("RootOf zero", n, 0, 128)
		fails("RootOf zeros with signs", n, complex(minusZero, minusZero), 128)
		fails("RootOf of no steps", n, 2, 0)
		// The first step leads to a number that is not small.
		fails("RootOf a subnormal number", n, complex(mostSubnorm, 0), 128)
		fails("RootOf a number near zero", n, complex(0.0001, 0), 128)
		for _, z := range largeOnes() {
			fails("RootOf a large number", n, z, 128)
		}
		for _, most := range []int64{-1, 129, 1<<63 - 1} {
			fails("RootOf with a wrong most", n, 1, most)
		}
	}
	fails("RootOf a number that stays between", 2, complex(0, 1), 128)
	for _, n := range []int64{0, 1, -1, 7, 1 << 33} {
		fails("RootOf with a wrong n", n, 1, 5)
	}
}

// TestStepsLeadToRoots holds that RootOf tells where RootStep leads.
func TestStepsLeadToRoots(t *testing.T) {
	found := 0
	for i, z := range spreadOver(1.5, 200) {
		n := int64(i%5) + 2
		k, steps, ok := impl.RootOf(n, z, 128)
		if !ok {
			continue
		}
		found++
		for range steps {
			z, _ = impl.RootStep(n, z)
		}
		if root := impl.PhasorOf(float64(k) / float64(n)); impl.LongOf(z-root) > 0.001 {
			t.Errorf("%d steps lead to %v, which is not the root %d of %d", steps, z, k, n)
		}
	}
	if found < 150 {
		t.Errorf("only %d roots are found", found)
	}
}
