package tests

import (
	"testing"

	"loop.example/g01318/impl"
)

func TestSmoothOf(t *testing.T) {
	rows := []struct {
		kind int64
		c, z complex64
		n    int64
		want float32
	}{
		{impl.MapSquare, at(0x3f097a3fbe6ce573), at(0x3e89648fbe8ed176), 6, number(0x40d3451c)},
		{impl.MapCube, at(0xbf43a2ea3f78a420), at(0x3e78e79e3de759bc), 3, number(0x40529a82)},
		{impl.MapBurn, at(0x3f58ea623f0063a4), at(0x3d39c0f3be867e21), 3, number(0x40680f6c)},
		{impl.MapMirror, at(0xbd182e373f05711b), at(0x3e1d4514be9163b1), 5, number(0x40bf30c3)},
		{impl.MapSquare, at(0xbf7bcc2bbf52dbd3), at(0x3e825b85be6d7e2c), 3, number(0x40799072)},
		{impl.MapCube, at(0xbe77788f3f768d0b), at(0x3e0248d43d787bb0), 18, number(0x41948f75)},
		{impl.MapBurn, at(0xbf1f2c443e3c1499), at(0xbe83dd95be93d22f), 5, number(0x40cca92b)},
		{impl.MapMirror, at(0x3f09694abf1cacc9), at(0x3e49b5c6bd30ac66), 8, number(0x4117029f)},
		{impl.MapCube, at(0xbf35bdbdbe8fcf57), at(0x3e2cfccbbe8a8c66), 4, number(0x408fbcb4)},
		{impl.MapBurn, at(0x41c54a9540aa9eda), at(0x3ebb7bc73f88034a), 1, number(0x3ea5ad64)},
		{impl.MapMirror, at(0xc1d4a894c1e56297), at(0x3fa965d03f04e53b), 1, number(0x3e003ad0)},
		{impl.MapSquare, at(0x4105e164419b1f9c), at(0xbfafeb5ac002324a), 0, number(0x3f93d5ed)},
		{impl.MapCube, at(0x41e114a2c1d2f868), at(0x3dc058f63f3e68dd), 1, number(0x3f51e5ca)},
		// In these two, the quotient may not be taken away from 1 alone.
		{impl.MapSquare, at(0xbf049f023f3ce07e), 0, 6, number(0x40e5f467)},
		{impl.MapSquare, at(0x3e9dc230bf19ad29), 0, 14, number(0x4172f1b7)},
		// A large number is out before the first step.
		{impl.MapSquare, 0, complex(mostSmall, mostSmall), 0, 0},
		{impl.MapCube, 0, complex(mostSmall, 0), 0, 0},
	}
	for _, r := range rows {
		m := impl.Map{Kind: r.kind, C: r.c}
		got, ok := impl.SmoothOf(m, r.z, 128)
		wantSum(t, "SmoothOf", got, ok, r.want)
		got, ok = impl.SmoothOf(m, r.z, r.n+1)
		wantSum(t, "SmoothOf with one more than the index", got, ok, r.want)
		got, ok = impl.SmoothOf(m, r.z, r.n)
		wantSum(t, "SmoothOf with just the index", got, ok, float32(r.n))
	}
	for _, most := range []int64{0, 1, 10, 128} {
		got, ok := impl.SmoothOf(square(-1), 0, most)
		wantSum(t, "SmoothOf what stays", got, ok, float32(most))
	}
	for _, most := range []int64{-1, 129, -1 << 63} {
		got, ok := impl.SmoothOf(square(1), 0, most)
		wantNone(t, "SmoothOf with a wrong most", got, ok)
	}
	wantFailures(t, "SmoothOf", func(m impl.Map, z complex64) bool {
		got, ok := impl.SmoothOf(m, z, 5)
		return ok || got != 0
	})
}

func TestPeriodOf(t *testing.T) {
	cube := impl.Map{Kind: impl.MapCube}
	rows := []struct {
		what       string
		m          impl.Map
		z          complex64
		skip, most int64
		near       float32
		want       int64 // 0 if it fails
	}{
		{"the example", square(-1), 0, 0, 5, 0, 2},
		{"just the most", square(-1), 0, 0, 2, 0, 2},
		{"less than the period", square(-1), 0, 0, 1, 0, 0},
		{"a zero with a sign for near", square(-1), 0, 0, 5, minusZero, 2},
		{"near enough at once", square(-1), 0, 0, 5, 1, 1},
		{"not quite near", square(-1), 0, 0, 1, beforeOne, 0},
		{"a difference that touches", square(0), 0.5, 0, 128, 0.25, 1},
		{"a difference next to it", square(0), 0.5, 0, 128, number(0x3e7fffff), 0},
		{"skipped", square(0), 0.5, 2, 5, 0.25, 1},
		{"the most skipped", square(0), 0.5, 128, 128, 0, 1},
		{"the long way with both parts", square(complex(3, -4)), 0, 0, 1, 5, 1},
		{"the long way next to it", square(complex(3, -4)), 0, 0, 1, number(0x409fffff), 0},
		{"after some steps", square(complex(0, 1)), 0, 1, 5, 0, 0},
		{"after more steps", square(complex(0, 1)), 0, 2, 5, 0, 2},
		{"not small at last, but near", square(0), 40, 0, 128, 1560, 1},
		{"not small, and not near", square(0), 40, 0, 128, number(0x44c2ffff), 0},
		{"not small, with the most skipped", square(0), 40, 128, 1, 1e30, 0},
		{"not small where the skip ends", square(0), 40, 1, 1, mostNumber, 0},
		{"small where the skip ends", cube, 10, 1, 1, mostNumber, 1},
		{"out, but small", square(1), 0, 0, 4, 26, 1},
		{"goes out", square(1), 0, 0, 128, 0.5, 0},
		{"a mirror turns back", impl.Map{Kind: impl.MapMirror}, complex(-0.5, 0.8660254), 0, 3, 1e-6, 1},
	}
	for _, r := range rows {
		got, ok := impl.PeriodOf(r.m, r.z, r.skip, r.most, r.near)
		if ok != (r.want > 0) || got != r.want {
			t.Errorf("PeriodOf %s: got %d, %v, want %d", r.what, got, ok, r.want)
		}
	}
	still := square(0)
	for _, near := range []float32{-leastNumber, -1, inf, minusInf, nan} {
		got, ok := impl.PeriodOf(still, 0, 0, 5, near)
		wantNone(t, "PeriodOf with a wrong near", got, ok)
	}
	for _, n := range []int64{-1, 129, 1 << 62, -1 << 63} {
		got, ok := impl.PeriodOf(still, 0, n, 5, 0)
		wantNone(t, "PeriodOf with a wrong skip", got, ok)
		got, ok = impl.PeriodOf(still, 0, 0, n, 0)
		wantNone(t, "PeriodOf with a wrong most", got, ok)
	}
	got, ok := impl.PeriodOf(still, 0, 0, 0, 0)
	wantNone(t, "PeriodOf with no step", got, ok)
	wantFailures(t, "PeriodOf", func(m impl.Map, z complex64) bool {
		got, ok := impl.PeriodOf(m, z, 0, 5, 1000)
		return ok || got != 0
	})
}

func TestRestsOf(t *testing.T) {
	rows := []struct{ c, one, two complex64 }{
		{0, 1, 0},
		{complex(minusZero, minusZero), 1, 0},
		{0.25, 0.5, 0.5},
		{-2, 2, -1},
		{-6, 3, -2},
		{1.25, complex(0.5, 1), complex(0.5, -1)},
		{complex(1.25, minusZero), complex(0.5, 1), complex(0.5, -1)},
		{complex(-0.5, 1), complex(1.5, -0.5), complex(-0.5, 0.5)},
		{complex(-0.5, -1), complex(1.5, 0.5), complex(-0.5, -0.5)},
		{complex(0, leastNumber), 1, 0},
		{complex(0.25, leastNumber), complex(0.5, -0x1p-75), complex(0.5, 0x1p-75)},
		{at(0x441a8f24c100f058), at(0x3f297f3a41c6e100), at(0x3ead018bc1c6e100)},
		{at(0x441db80dc43e7e63), at(0x415e341641e3a9f3), at(0xc14e3416c1e3a9f3)},
		{at(0xbe6fe144bd988642), at(0x3f9955ba3d5a89f5), at(0xbe4aadd0bd5a89f5)},
		{at(0xbe8dd17b3e2f1007), at(0x3f9e1ac6bdee1e3f), at(0xbe70d62c3dee1e3f)},
		{at(0x3fa29c233fdf937a), at(0x3f9a9f82bf9de4f2), at(0xbe54fc143f9de4f2)},
		{at(0x4436e3c2c4127dd4), at(0x412a4d7541e70fac), at(0xc11a4d75c1e70fac)},
		{at(0xc4397de4c44cb860), at(0x41f723e041578c4c), at(0xc1ef23e0c1578c4c)},
		{at(0xc3495d9343c149be), at(0x4192d73ac12d34bc), at(0xc18ad73a412d34bc)},
	}
	for _, r := range rows {
		one, two, ok := impl.RestsOf(r.c)
		wantComplexSum(t, "RestsOf, one", one, ok, r.one)
		wantComplex(t, "RestsOf, two", two, r.two)
	}
	for _, c := range smallOnes() {
		if _, _, ok := impl.RestsOf(c); !ok {
			t.Errorf("RestsOf fails with %v", c)
		}
	}
	for _, c := range largeOnes() {
		one, two, ok := impl.RestsOf(c)
		wantNone(t, "RestsOf, one", one, ok)
		wantNone(t, "RestsOf, two", two, ok)
	}
}

// TestRestsRest holds that squares move these numbers nearly nowhere.
func TestRestsRest(t *testing.T) {
	for _, c := range spreadOver(2, 200) {
		one, two, _ := impl.RestsOf(c)
		for _, z := range []complex64{one, two} {
			next, ok := impl.MapOnce(square(c), z)
			if !ok || impl.LongOf(next-z) > 1e-5 {
				t.Errorf("a square with %v moves %v to %v", c, z, next)
			}
		}
	}
}

func TestSpreadOf(t *testing.T) {
	rows := []struct {
		kind int64
		z    complex64
		want float32
	}{
		{impl.MapSquare, complex(3, 4), 10},
		{impl.MapMirror, complex(3, -4), 10},
		{impl.MapCube, complex(3, 4), 75},
		{impl.MapSquare, complex(minusZero, minusZero), 0},
		{impl.MapCube, 0, 0},
		{impl.MapSquare, complex(0, leastNumber), number(2)},
		{impl.MapCube, complex(0, leastNumber), 0},
		{impl.MapCube, complex(mostSmall, -mostSmall), 6000000},
		{impl.MapSquare, at(0x3e11f6eabe35dda8), number(0x3ee9326c)},
		{impl.MapCube, at(0x43f27f44c39fc6cb), number(0x4977120c)},
		{impl.MapMirror, at(0xbf8a6bdebd6538e3), number(0x400a9b49)},
		{impl.MapSquare, at(0x3fe12ccdbee822fd), number(0x40688888)},
		{impl.MapCube, at(0x442713b843ff485a), number(0x4a018348)},
		{impl.MapMirror, at(0x3f491558bf939c69), number(0x4032995d)},
	}
	for _, r := range rows {
		got, ok := impl.SpreadOf(impl.Map{Kind: r.kind, C: complex(-3, 1)}, r.z)
		wantSum(t, "SpreadOf", got, ok, r.want)
	}
	for _, z := range smallOnes() {
		got, ok := impl.SpreadOf(impl.Map{Kind: impl.MapBurn}, z)
		wantNone(t, "SpreadOf a burn", got, ok)
	}
	wantFailures(t, "SpreadOf", func(m impl.Map, z complex64) bool {
		got, ok := impl.SpreadOf(m, z)
		return ok || got != 0
	})
}

func TestInHeart(t *testing.T) {
	rows := []struct {
		c    complex64
		want bool
	}{
		{0, true}, {complex(minusZero, minusZero), true}, {1, false}, {-1, true}, {-2, false}, {complex(0, 1), false},
		{0.25, true}, {complex(number(0x3e800001), 0), false},
		{complex(0.25, leastNumber), true}, {complex(0.25, 0.5), true}, {complex(0.375, 0.2), false},
		{-0.75, true}, {complex(-0.75, leastNumber), true}, {complex(-0.75, number(0x3a000000)), false},
		{-1.25, true}, {complex(number(0xbfa00001), 0), false},
		{complex(-1, 0.25), true}, {complex(-1, -0.25), true},
		{complex(-1, number(0x3e800001)), false}, {complex(-1, -number(0x3e800001)), false},
		{complex(0.3, 0.5), false}, {complex(0, 0.64), false}, {complex(mostSmall, mostSmall), false},
		// Here, numbers with more bits would tell the opposite.
		{at(0xbf71cdbb3e799f5f), true}, {at(0xbf3abfa33e27fe80), true}, {at(0x3ebfc9a23e4cc329), true},
		{at(0xbf42b10f3d92ec27), true}, {at(0xbf0a87253ef7302c), false}, {at(0xbded3fe3bf26421e), false},
	}
	for _, r := range rows {
		if got := impl.InHeart(r.c); got != r.want {
			t.Errorf("InHeart %v: got %v", r.c, got)
		}
	}
	for _, c := range largeOnes() {
		wantBool(t, "InHeart of a number that is not small", impl.InHeart(c), false)
	}
}

// TestHeartsStay holds that orbits do not go out where InHeart tells so.
func TestHeartsStay(t *testing.T) {
	inside := 0
	for _, c := range spreadOver(1.3, 1000) {
		if impl.InHeart(c) {
			inside++
			if n, ok := impl.EscapeOf(square(c), 0, 128); !ok || n != 128 {
				t.Errorf("%v is in the heart and out at %d", c, n)
			}
		}
	}
	if inside < 100 {
		t.Errorf("only %d numbers are inside", inside)
	}
}

func TestBorderOf(t *testing.T) {
	rows := []struct {
		c    complex64
		n    int64 // after so many times, z is out
		want float32
	}{
		{at(0xbeee3d743f7cf752), 4, number(0x3e47c989)},
		{at(0xbf9dd9f33eacade6), 12, number(0x3c119e9a)},
		{at(0xbf9355d33e93b94a), 25, number(0x3aed626e)},
		{at(0xbfc2c6e93ab1262d), 25, number(0x389ee425)},
		{at(0xbf4ce51c3eba2035), 8, number(0x3d75df37)},
		{at(0x3e43fbdd3f1a9b4b), 12, number(0x3ba9a646)},
		{at(0x3ebbe927bdfb47af), 46, number(0x3926c63e)},
		{at(0x3e89425fbef9ecd8), 104, number(0x389b3b87)},
		{at(0xbcdf057dbf276dee), 24, number(0x3a30b7d8)},
		{at(0xbfa714bc3d9a7c94), 25, number(0x39840015)},
	}
	for _, r := range rows {
		got, ok := impl.BorderOf(r.c, 128)
		wantSum(t, "BorderOf", got, ok, r.want)
		got, ok = impl.BorderOf(r.c, r.n)
		wantSum(t, "BorderOf with just the steps", got, ok, r.want)
		got, ok = impl.BorderOf(r.c, r.n-1)
		wantSum(t, "BorderOf with too few steps", got, ok, 0)
	}
	for _, c := range []complex64{0, -1, -2, 0.25, complex(0, 1), complex(minusZero, leastNumber)} {
		for _, most := range []int64{1, 20, 128} {
			got, ok := impl.BorderOf(c, most)
			wantSum(t, "BorderOf what stays", got, ok, 0)
		}
	}
	got, ok := impl.BorderOf(complex(-2, leastNumber), 60)
	wantSum(t, "BorderOf before it goes out", got, ok, 0)
	got, ok = impl.BorderOf(complex(-2, leastNumber), 128)
	wantNone(t, "BorderOf with a not-a-number", got, ok)
	got, ok = impl.BorderOf(complex(-2, 1e-30), 128)
	wantSum(t, "BorderOf very near", got, ok, number(0x13051594))
	for _, most := range []int64{0, -1, 129, -1 << 63} {
		got, ok := impl.BorderOf(4, most)
		wantNone(t, "BorderOf with a wrong most", got, ok)
	}
	for _, c := range smallOnes() {
		if _, ok := impl.BorderOf(c, 128); !ok {
			t.Errorf("BorderOf fails with %v", c)
		}
	}
	for _, c := range largeOnes() {
		got, ok := impl.BorderOf(c, 20)
		wantNone(t, "BorderOf a number that is not small", got, ok)
	}
}
