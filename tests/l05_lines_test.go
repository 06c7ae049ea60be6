package tests

import (
	"math"
	"testing"

	"loop.example/g01318/impl"
)

func TestSpectrumLine(t *testing.T) {
	rows := []struct {
		count int64
		slope float32
		seed  int64
		want  string
		last  int64
	}{
		// No wave is short enough for two numbers, so that none is drawn.
		{2, 1, 77, "00000000 00000000", 77},
		{2, 0, 2147483647, "00000000 00000000", 2147483647},
		// Half of -1 turns a wave to its other side; what is added to +0 has no sign, if it is nothing.
		{4, 1, drawsNothing, "bf800000 00000000 3f800000 00000000", 0},
		{4, 1, 0, "bf800000 00000000 3f800000 00000000", 12345},
		{3, 0, 183155923, "3f63afab bf5730b4 bd47ef6d", 1236066320},
		{4, 8, 759635329, "bf78323d 3e7ae801 3f78323d be7ae801", 84610598},
		{4, minusZero, 759635329, "bf78323d 3e7ae801 3f78323d be7ae801", 84610598},
		{5, number(0x3ff8174b), 1199975514, "bf5aa5de be82dd62 3e97f053 3fb20ff2 bf14037e", 629566312},
		{7, number(0x40c618b0), 934411024, "3f549379 3f74f853 3eefb5ea be924862 bf54ac19 bf7615e3 be360252", 1393191471},
		{8, number(0x3fea1215), 1594083171, "bf2b0056 bf7c5bbf bf5dc3fb 3ca824a0 3fd942a4 3f3a59a9 be2703d0 3e7303c3", 1987302622},
	}
	for _, r := range rows {
		got, seed, ok := impl.SpectrumLine(r.count, r.slope, r.seed)
		wantNumbers(t, "SpectrumLine", got, ok, numbers(r.want))
		wantInteger(t, "the seed of SpectrumLine", seed, ok, r.last)
	}
	long := []struct {
		count int64
		slope float32
		want  uint32
	}{{64, 0, 0x5f9a3df9}, {63, 0, 0x7c9661fb}, {64, 2, 0xaf090028}, {63, 2, 0xdd3707bc}, {64, 8, 0xdc4c7075}, {63, 8, 0x3b47d816}}
	for _, r := range long {
		got, seed, ok := impl.SpectrumLine(r.count, r.slope, 2147483647)
		wantInteger(t, "the seed of a long SpectrumLine", seed, ok, 214507646)
		if int64(len(got)) != r.count || digest(got) != r.want {
			t.Errorf("SpectrumLine of %d numbers is %v", r.count, got)
		}
	}
}

func TestSpectrumLineFails(t *testing.T) {
	fails := func(what string, count int64, slope float32, seed int64) {
		t.Helper()
		got, last, ok := impl.SpectrumLine(count, slope, seed)
		wantNoList(t, "SpectrumLine "+what, got, ok)
		wantNone(t, "SpectrumLine "+what, last, ok)
	}
	for _, count := range []int64{0, 1, -1, 65, math.MaxInt64, math.MinInt64} {
		fails("of too few or too many numbers", count, 1, 5)
	}
	for _, count := range []int64{2, 3, 64} {
		for _, slope := range append(endlessNumbers(), -leastNumber, -1, number(0x41000001), 9, mostNumber) {
			fails("with a wrong slope", count, slope, 5)
		}
		for _, seed := range wrongSeeds() {
			fails("with a wrong seed", count, 1, seed)
		}
	}
}

func TestPowersOfLine(t *testing.T) {
	rows := []struct{ list, want string }{
		{"00000000 80000000 00000000", "00000000"},
		{"3f800000 00000000 00000000 00000000", "3f800000"},
		{"00000000 3f800000 00000000 bf800000", "40800000"},
		{"00000000 40000000 00000000 00000000 00000000", "40800000 40800000"},
		{"be153d6a be51fbad bd873ddb", "3c6f34e0"},
		{"c015d35f bff927ad c01c4769 c019f730", "3e62537a"},
		{"bf64ae99 bfff4d0b 402f66cc 3fdb693c 4032d045", "4206b17b 41665bc2"},
		{"c03677f1 3ff1ed1a 3fcb320f 3fa85c4e c02bc659 4033e34f 403b1045 3f4cee83", "4080f347 42d72f00 3fe8b99b"},
		{"3fa0a60a bfe5aa1b 40039233 c01da285 3f2c9a63 40148cf7 bf8f1ba1 be8604ac 3f79af37", "3fc15025 4146b0d5 4252633c 421213f8"},
	}
	for _, r := range rows {
		got, ok := impl.PowersOfLine(numbers(r.list))
		wantNumbers(t, "PowersOfLine "+r.list, got, ok, numbers(r.want))
	}
	most := make([]float32, 64)
	for i := range most {
		most[i] = float32(i*i%37 - 18)
	}
	for count, want := range map[int]uint32{64: 0x789b01ba, 63: 0x918ade44} {
		got, ok := impl.PowersOfLine(most[:count])
		if !ok || len(got) != 31 || digest(got) != want {
			t.Errorf("PowersOfLine of %d numbers is %v, %v", count, got, ok)
		}
	}
}

func TestPowersOfLineFails(t *testing.T) {
	fails := func(what string, list []float32) {
		t.Helper()
		got, ok := impl.PowersOfLine(list)
		wantNoList(t, "PowersOfLine "+what, got, ok)
	}
	for _, list := range [][]float32{nil, {}, {1}, {1, 1}, make([]float32, 65), make([]float32, 256)} {
		fails("of too few or too many numbers", list)
	}
	for _, x := range endlessNumbers() {
		fails("of a number that is not finite", []float32{x, 1, 2})
		fails("of a number that is not finite", []float32{1, 2, 3, x})
	}
	fails("with a power that is not finite", []float32{1e20, 0, 0})
	fails("with a sum that is not finite", []float32{0, mostNumber, 0, -mostNumber})
	// Here, the first of both powers is finite.
	fails("with a later power that is not finite", []float32{1e19, -0.8e19, 0.3e19, 0.3e19, -0.8e19})
}

func TestSlopeOfPowers(t *testing.T) {
	rows := []struct {
		powers string
		want   float32
	}{
		{"3d2ecc09 3f15935b", number(0xc0719cc8)},
		{"4017a908 40375278 3ece4c62", number(0x3fb46e15)},
		{"3ef0fbf1 3e02a966 4010a711 403c129e 3dcbd020", number(0xbe56c438)},
		{"4013c918 3fd6d4d0 3f30271e 400308a8 3fbab4b8 3f239c45 3f2efc3e 3f48ca67", number(0x3f0734e7)},
		{"00000001 7f7fffff", number(0xc38a8000)},
		// The opposite of no slope has a sign.
		{"3f800000 3f800000 3f800000", minusZero},
		{"40000000 40000000", minusZero},
	}
	for _, r := range rows {
		got, ok := impl.SlopeOfPowers(numbers(r.powers))
		wantSum(t, "SlopeOfPowers "+r.powers, got, ok, r.want)
	}
	most := make([]float32, 64)
	for i := range most {
		most[i] = float32(1 + i*i%37)
	}
	got, ok := impl.SlopeOfPowers(most)
	wantSum(t, "SlopeOfPowers of the most powers", got, ok, number(0xbe872847))
}

func TestSlopeOfPowersFails(t *testing.T) {
	fails := func(what string, powers []float32) {
		t.Helper()
		got, ok := impl.SlopeOfPowers(powers)
		wantBool(t, "SlopeOfPowers "+what, ok, false)
		wantNumber(t, "SlopeOfPowers "+what, got, 0)
	}
	for _, powers := range [][]float32{nil, {}, {1}, repeated(float32(1), 65), repeated(float32(2), 256)} {
		fails("of too few or too many powers", powers)
	}
	for _, x := range append(endlessNumbers(), 0, minusZero, -leastNumber, -1, -mostNumber) {
		fails("of a wrong power", []float32{x, 1})
		fails("of a wrong power", []float32{1, 2, 3, x})
	}
}

// TestSpectraHaveTheirSlopes holds that the powers of a line fall as told, nearly.
func TestSpectraHaveTheirSlopes(t *testing.T) {
	for _, count := range []int64{5, 16, 63, 64} {
		for _, slope := range []float32{0, 0.5, 1, 2, 3} {
			for seed := int64(1); seed < 1<<31; seed = 11*seed + 7 {
				list, _, _ := impl.SpectrumLine(count, slope, seed)
				powers, one := impl.PowersOfLine(list)
				got, two := impl.SlopeOfPowers(powers)
				if !one || !two || math.Abs(float64(got-slope)) > 0.01 {
					t.Errorf("a line of %d numbers with the slope %v has the slope %v", count, slope, got)
				}
			}
		}
	}
}
