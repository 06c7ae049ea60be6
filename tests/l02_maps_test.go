package tests

import (
	"testing"

	"loop.example/g01318/impl"
)

// The bits in the tables of the tests of chapter 2 were computed outside of Go, from the document.

// at returns the complex number with the bits of ComplexText.
func at(bits uint64) complex64 {
	return complex(number(uint32(bits>>32)), number(uint32(bits)))
}

func square(c complex64) impl.Map { return impl.Map{Kind: impl.MapSquare, C: c} }

var mapKinds = []int64{impl.MapSquare, impl.MapCube, impl.MapBurn, impl.MapMirror}

var (
	mostSmall  = float32(1000)
	afterSmall = number(0x447a0001)
)

// smallOnes are small numbers, up to the bounds of their parts.
func smallOnes() []complex64 {
	return []complex64{
		0, complex(minusZero, minusZero), complex(leastNumber, -mostSubnorm), complex(-1.5, 0.25), complex(2, -2),
		complex(mostSmall, -mostSmall), complex(-mostSmall, mostSmall),
	}
}

// largeOnes are numbers that are not small, for either of their parts.
func largeOnes() []complex64 {
	var list []complex64
	for _, x := range []float32{afterSmall, -afterSmall, 1e30, mostNumber, inf, minusInf, nan, otherNaN} {
		list = append(list, complex(x, 0), complex(0.5, x), complex(x, x))
	}
	return list
}

func wrongMaps() []impl.Map {
	list := []impl.Map{{Kind: -1}, {Kind: 4}, {Kind: 1 << 62}, {Kind: -1 << 63}}
	for i, c := range largeOnes() {
		list = append(list, impl.Map{Kind: int64(i % 4), C: c})
	}
	return list
}

// wantFailures checks a function of a map and a number with all that are not valid.
func wantFailures(t *testing.T, what string, call func(m impl.Map, z complex64) bool) {
	t.Helper()
	for _, m := range wrongMaps() {
		if call(m, 0) {
			t.Errorf("%s succeeds with the map %v", what, m)
		}
	}
	for _, z := range largeOnes() {
		if call(square(0), z) {
			t.Errorf("%s succeeds with the number %v", what, z)
		}
	}
}

func TestLimitsOfChapter2(t *testing.T) {
	if impl.MaxSide != 16 || impl.MaxTurns != 128 || impl.MaxPoints != 256 || impl.MaxWorkers != 8 {
		t.Error("a limit of chapter 2 is not as told")
	}
	if impl.MapSquare != 0 || impl.MapCube != 1 || impl.MapBurn != 2 || impl.MapMirror != 3 {
		t.Error("a kind of maps is not as told")
	}
}

func TestValidMap(t *testing.T) {
	for _, kind := range mapKinds {
		for _, c := range smallOnes() {
			wantBool(t, "ValidMap of a small C", impl.ValidMap(impl.Map{Kind: kind, C: c}), true)
		}
	}
	for _, m := range wrongMaps() {
		if impl.ValidMap(m) {
			t.Errorf("ValidMap takes %v", m)
		}
	}
}

func TestSameMap(t *testing.T) {
	rows := []struct {
		what string
		a, b impl.Map
		want bool
	}{
		{"one map", square(complex(1, 2)), square(complex(1, 2)), true},
		{"zero values", impl.Map{}, impl.Map{}, true},
		{"kinds", impl.Map{Kind: 1}, impl.Map{Kind: 2}, false},
		{"real parts", square(1), square(complex(afterOne, 0)), false},
		{"imaginary parts", square(complex(0, 1)), square(complex(0, -1)), false},
		{"zeros with signs", square(0), square(complex(minusZero, 0)), false},
		{"imaginary zeros with signs", square(0), square(complex(0, minusZero)), false},
		{"not-a-numbers", square(complex(nan, otherNaN)), square(complex(otherNaN, nan)), true},
		{"infinities", square(complex(inf, 0)), square(complex(minusInf, 0)), false},
		{"maps that are not valid", impl.Map{Kind: -7, C: 1e9}, impl.Map{Kind: -7, C: 1e9}, true},
		{"kinds that are not valid", impl.Map{Kind: 4}, impl.Map{Kind: 1<<32 + 4}, false},
	}
	for _, r := range rows {
		wantBool(t, "SameMap: "+r.what, impl.SameMap(r.a, r.b), r.want)
		wantBool(t, "SameMap: "+r.what+", the other way", impl.SameMap(r.b, r.a), r.want)
	}
}

func TestMapOnce(t *testing.T) {
	rows := []struct {
		kind       int64
		c, z, want complex64
	}{
		{impl.MapSquare, -1, 0, -1},
		{impl.MapSquare, complex(1, 2), complex(3, -1), complex(9, -4)},
		{impl.MapSquare, complex(minusZero, minusZero), 0, 0},
		{impl.MapSquare, complex(minusZero, minusZero), complex(minusZero, 1), complex(-1, minusZero)},
		{impl.MapSquare, 0, complex(leastNumber, leastNumber), 0},
		{impl.MapSquare, 1, complex(mostSmall, mostSmall), complex(1, 2000000)},
		{impl.MapCube, 1, 2, 9},
		{impl.MapCube, complex(0, 1), complex(1, 1), complex(-2, 3)},
		{impl.MapCube, 0, complex(mostSmall, 0), 1e9},
		{impl.MapBurn, 0, complex(-1, -1), complex(0, 2)},
		{impl.MapBurn, 0, complex(-2, 1), complex(3, 4)},
		{impl.MapBurn, complex(minusZero, minusZero), complex(-1, minusZero), 1},
		{impl.MapMirror, 0, complex(1, 1), complex(0, -2)},
		{impl.MapMirror, complex(1, 1), complex(2, 1), complex(4, -3)},
		{impl.MapSquare, at(0x3f65b879bf05b43f), at(0xbf474d0d3f77b910), at(0x3f112ab8c001dac5)},
		{impl.MapSquare, at(0xbfc51686bdc2ab18), at(0x42d06bc843486647), at(0xc6e4eb5a47232761)},
		{impl.MapSquare, at(0xa64c5f2d2596a13f), at(0x21b6ecfe264a67ff), at(0xa64c5f2d2596a13f)},
		{impl.MapCube, at(0xbfb51cf63faf8e39), at(0xbf7b61c33f70a827), at(0x3e7758204050a60b)},
		{impl.MapCube, at(0x3cefb1d03fabe00a), at(0xc40eb4eac3a0aa7c), at(0xcb0c1073cd85f588)},
		{impl.MapBurn, at(0xbf6cc89ebfa0ea64), at(0xbf664c743e38a3da), at(0xbe17b798bf6ec79b)},
		{impl.MapBurn, at(0xbe7f6c2d3f5129c9), at(0xc43eaa604418c4e3), at(0x484b5bbc49638fa6)},
		{impl.MapMirror, at(0xbf9b8c94bdee26ac), at(0xbfa1896f3f583e93), at(0xbeac14644001023d)},
		{impl.MapMirror, at(0x3e1b8a6cbfc97be7), at(0xc2c6dec543f92859), at(0xc868d7a447c18d3d)},
	}
	for _, r := range rows {
		got, ok := impl.MapOnce(impl.Map{Kind: r.kind, C: r.c}, r.z)
		wantComplexSum(t, "MapOnce", got, ok, r.want)
	}
	for _, kind := range mapKinds {
		for _, z := range smallOnes() {
			got, ok := impl.MapOnce(impl.Map{Kind: kind, C: -z}, z)
			if !ok || !impl.IsFiniteComplex(got) {
				t.Errorf("MapOnce fails with the small numbers %v and %v", -z, z)
			}
		}
	}
	wantFailures(t, "MapOnce", func(m impl.Map, z complex64) bool {
		got, ok := impl.MapOnce(m, z)
		return ok || got != 0
	})
}

func TestOrbitOf(t *testing.T) {
	rows := []struct {
		m    impl.Map
		z    complex64
		want []complex64
	}{
		{square(-1), 0, []complex64{0, -1, 0, -1}},
		{square(1), 0, []complex64{0, 1, 2, 5}},
		{square(1), complex(minusZero, minusZero), []complex64{complex(minusZero, minusZero), 1, 2}},
		{square(1), 5, nil},
		{square(1), complex(mostSmall, -mostSmall), []complex64{complex(mostSmall, -mostSmall), complex(1, -2000000)}},
		{square(complex(mostSmall, 0)), 0, []complex64{0, 1000, 1001000}},
		{impl.Map{Kind: impl.MapCube}, 2, []complex64{2, 8, 512, 134217728}},
		{impl.Map{Kind: impl.MapBurn}, complex(-1, -1), []complex64{complex(-1, -1), complex(0, 2), -4, 16, 256}},
		{impl.Map{Kind: impl.MapMirror, C: complex(0, 1)}, 0, []complex64{0, complex(0, 1), complex(-1, 1), complex(0, 3)}},
	}
	for _, r := range rows {
		got, ok := impl.OrbitOf(r.m, r.z, int64(len(r.want)))
		if !ok || len(got) != len(r.want) {
			t.Errorf("OrbitOf %v from %v: got %v, %v", r.m, r.z, got, ok)
			continue
		}
		for i := range got {
			wantComplex(t, "OrbitOf", got[i], r.want[i])
		}
	}
}

func TestOrbitsThatEnd(t *testing.T) {
	rows := []struct {
		m    impl.Map
		z    complex64
		most int64
	}{
		{square(complex(mostSmall, 0)), 0, 3}, // 1001000 is the last one
		{square(complex(mostSmall, 0)), 1, 2},
		{square(complex(0, -mostSmall)), 0, 3},
		{impl.Map{Kind: impl.MapCube}, 10, 3}, // 1000 is small
		{impl.Map{Kind: impl.MapCube}, -10, 3},
		{impl.Map{Kind: impl.MapCube}, complex(0, 10), 3},
		{impl.Map{Kind: impl.MapCube}, complex(number(0x41200001), 0), 2},
		{square(-1), 0, 128},
		{square(0), 1, 128},
		{square(-2), 0, 128},
	}
	for _, r := range rows {
		for count := int64(0); count <= 130; count++ {
			got, ok := impl.OrbitOf(r.m, r.z, count)
			if count > r.most {
				wantNoList(t, "OrbitOf beyond its end", got, ok)
			} else if !ok || int64(len(got)) != count {
				t.Errorf("OrbitOf %v from %v: %d numbers for %d, %v", r.m, r.z, len(got), count, ok)
			}
		}
	}
	for _, count := range []int64{-1, 129, 1 << 40, -1 << 63, 1<<63 - 1} {
		got, ok := impl.OrbitOf(square(0), 0, count)
		wantNoList(t, "OrbitOf so many", got, ok)
	}
	for _, count := range []int64{0, 1, 2} {
		wantFailures(t, "OrbitOf", func(m impl.Map, z complex64) bool {
			got, ok := impl.OrbitOf(m, z, count)
			return ok || len(got) > 0
		})
	}
}

func TestEscapeOf(t *testing.T) {
	afterTwo := number(0x40000001)
	rows := []struct {
		what       string
		m          impl.Map
		z          complex64
		most, want int64
	}{
		{"the example", square(1), 0, 10, 3},
		{"just the most", square(1), 0, 3, 3},
		{"one more than the most", square(1), 0, 2, 2},
		{"none", square(1), 0, 0, 0},
		{"never", square(-1), 0, 128, 128},
		{"at once", square(0), 3, 128, 0},
		{"at once, for a negative number", square(0), complex(0, -3), 128, 0},
		{"at once, but none", square(0), 3, 0, 0},
		{"touching 4 for ever", square(-2), 0, 128, 128},
		{"touching 4 once", square(0), 2, 128, 1},
		{"touching 4 with the other part", square(0), complex(0, -2), 128, 1},
		{"next to 2", square(0), complex(afterTwo, 0), 128, 0},
		{"less than 2", square(0), complex(number(0x3fffffff), 0), 128, 1},
		{"narrowed to 4", square(0), complex(2, 0.0001), 128, 1},
		{"narrowed to more than 4", square(0), complex(2, 0.0009765625), 128, 0},
		{"a cube", impl.Map{Kind: impl.MapCube}, 1.5, 128, 1},
		{"a cube that touches", impl.Map{Kind: impl.MapCube, C: -6}, 2, 128, 128},
		{"a burn", impl.Map{Kind: impl.MapBurn, C: complex(-1, -1)}, 0, 128, 128},
		{"a burn that goes out", impl.Map{Kind: impl.MapBurn, C: complex(1, 1)}, 0, 128, 2},
		{"a mirror", impl.Map{Kind: impl.MapMirror, C: complex(0, 1)}, 0, 128, 3},
		{"large numbers", square(complex(mostSmall, mostSmall)), complex(mostSmall, mostSmall), 128, 0},
		{"a large C", square(complex(mostSmall, mostSmall)), 0, 128, 1},
		{"subnormal numbers", square(complex(leastNumber, 0)), complex(0, leastNumber), 128, 128},
	}
	for _, r := range rows {
		got, ok := impl.EscapeOf(r.m, r.z, r.most)
		if !ok || got != r.want {
			t.Errorf("EscapeOf %s: got %d, %v, want %d", r.what, got, ok, r.want)
		}
	}
	for _, most := range []int64{-1, 129, 1<<63 - 1, -1 << 63} {
		got, ok := impl.EscapeOf(square(1), 0, most)
		wantNone(t, "EscapeOf with a wrong most", got, ok)
	}
	wantFailures(t, "EscapeOf", func(m impl.Map, z complex64) bool {
		got, ok := impl.EscapeOf(m, z, 5)
		return ok || got != 0
	})
}

// spreadOver returns numbers in a square around 0, always the same ones.
func spreadOver(wide float32, count int) []complex64 {
	list := make([]complex64, count)
	state := uint64(9)
	next := func() float32 {
		state = state*6364136223846793005 + 1442695040888963407
		return (float32(state>>40)/(1<<23) - 1) * wide
	}
	for i := range list {
		list[i] = complex(next(), next())
	}
	return list
}

// TestEscapesAreWhatOrbitsTell counts the numbers of orbits that are not out.
func TestEscapesAreWhatOrbitsTell(t *testing.T) {
	cs, zs := spreadOver(1.6, 300), spreadOver(1.1, 300)
	late := 0
	for i, c := range cs {
		m, z := impl.Map{Kind: int64(i % 4), C: c}, zs[299-i]
		var seen int64
		orbit := []complex64{z}
		for seen < 128 && impl.PowerOf(orbit[seen]) <= 4 {
			seen++
			next, ok := impl.MapOnce(m, orbit[seen-1])
			if !ok {
				t.Fatalf("MapOnce fails with %v", orbit[seen-1])
			}
			orbit = append(orbit, next)
		}
		if told, ok := impl.OrbitOf(m, z, min(seen+1, 128)); ok {
			for k := range told {
				wantComplex(t, "a number of OrbitOf", told[k], orbit[k])
			}
		} else {
			t.Errorf("OrbitOf %v fails before it is out", m)
		}
		for most := int64(0); most <= 128; most++ {
			if got, ok := impl.EscapeOf(m, z, most); !ok || got != min(seen, most) {
				t.Errorf("EscapeOf %v from %v: got %d, %v, want %d", m, z, got, ok, min(seen, most))
			}
		}
		if seen > 4 && seen < 128 {
			late++
		}
	}
	if late < 20 {
		t.Errorf("only %d orbits go out late", late)
	}
}
