package tests

import (
	"math"
	"testing"

	"loop.example/g01318/impl"
)

func TestNoiseWalk(t *testing.T) {
	rows := []struct {
		count int64
		keep  float32
		seed  int64
		want  string
		last  int64
	}{
		{0, 0.5, 77, "", 77},
		{0, 1, 2147483647, "", 2147483647},
		{1, 0.5, 0, "bf800000", 12345},
		{1, 0.5, 2147483647, "bce38000", 1043980748},
		{1, 1, drawsNothing, "bf800000", 0},
		{3, 0.5, 1014474371, "00000000 00000000 bf309000", 333190782},
		{3, 0.5, 958577438, "00000000 3e4a6000 3f7a6c00", 1805810709},
		{3, 1, 7, "3e46c000 bc5a0000 bf0eb000", 712265938},
		{3, -1, 7, "3e46c000 becd9000 be120000", 712265938},
		{4, 0, 99, "3f3ec000 3e06d000 3f004400 3f85f200", 1659387839},
		{4, minusZero, 99, "3f3ec000 3e06d000 3f004400 3f85f200", 1659387839},
		{5, number(0x3ebd70a4), 1234567, "3f633000 3f9bc19a 3fbef13c 3fbe6e0f 3fab0586", 912567584},
		{6, number(0xbf547ae1), 2000000000, "bf4c6000 bf334a67 bfcae42a bf244f55 c00020dc bfbab093", 445124746},
	}
	for _, r := range rows {
		got, seed, ok := impl.NoiseWalk(r.count, r.keep, r.seed)
		wantNumbers(t, "NoiseWalk", got, ok, numbers(r.want))
		wantInteger(t, "the seed of NoiseWalk", seed, ok, r.last)
	}
	for keep, want := range map[float32]uint32{1: 0xade51a39, 0.5: 0x1970af8a, -1: 0x7bcc2740} {
		got, seed, ok := impl.NoiseWalk(256, keep, 2147483647)
		wantInteger(t, "the seed of a long NoiseWalk", seed, ok, 1620020991)
		if len(got) != 256 || digest(got) != want {
			t.Errorf("a long NoiseWalk is %v", got)
		}
	}
}

func TestNoiseWalkFails(t *testing.T) {
	fails := func(what string, count int64, keep float32, seed int64) {
		t.Helper()
		got, last, ok := impl.NoiseWalk(count, keep, seed)
		wantNoList(t, "NoiseWalk "+what, got, ok)
		wantNone(t, "NoiseWalk "+what, last, ok)
	}
	for _, count := range []int64{-1, 257, math.MaxInt64, math.MinInt64} {
		fails("of too few or too many numbers", count, 0.5, 5)
	}
	for _, count := range []int64{0, 1, 256} {
		for _, keep := range append(endlessNumbers(), afterOne, -afterOne, 2, -mostNumber) {
			fails("that keeps too much", count, keep, 5)
		}
		for _, seed := range wrongSeeds() {
			fails("with a wrong seed", count, 0.5, seed)
		}
	}
}

// rangeRow is a list with its range, and its range of sums over the spread, -1 if there is none.
type rangeRow struct {
	list              []float32
	plain, overSpread float32
}

func rangeRows() []rangeRow {
	return []rangeRow{
		{[]float32{1, 4, 2}, 3, number(0x3fab0c15)},
		{[]float32{1, -1, 1, -1}, 2, 1},
		{[]float32{-1, 1}, 2, 1},
		{[]float32{-1, -1, 1, 1}, 2, 2},
		{[]float32{7}, 0, -1},
		{[]float32{minusZero}, 0, -1},
		{[]float32{0, minusZero}, 0, -1},
		{[]float32{minusZero, 0, minusZero}, 0, -1},
		// Where all numbers are equal, nothing is spread, but for what is rounded.
		{[]float32{2, 2}, 0, -1},
		{repeated(float32(0.5), 256), 0, -1},
		{repeated(float32(0.1), 3), 0, -1},
		{repeated(float32(0.1), 7), 0, 7},
		{repeated(float32(1.3), 6), 0, 6},
		{repeated(float32(1.3), 5), 0, -1},
		// Squares that are nothing are not spread either.
		{[]float32{0, 1e-30}, number(0x0da24260), -1},
		// Sums begin with nothing: without it, the range would be less here.
		{numbers("40c66666 40e00000 40e66666 40533333"), number(0x40799999), number(0x3fd73d68)},
		{[]float32{1e20, 2e20}, number(0x60ad78ec), -1},
		{[]float32{3e38, 2e38, 1}, number(0x7f61b1e6), -1},
		{numbers("bea69c76 c03b3790"), number(0x40266401), afterOne},
		{numbers("403dbd7c 40344aa2 3f8905a0"), number(0x3ff27558), number(0x3fb49315)},
		{numbers("bdf46dfe c024f997 c011828f 3f9d715e 3fe22d69"), number(0x408b0826), number(0x4012c6d0)},
		{numbers("403bceab 400ae717 bebeb97f bfbbef3b 3e808869 bf6cb066 3e89a034 40137b3f"), number(0x408ce324), number(0x4065d004)},
		{numbers("be9088bd 4038c8ff 3fa7b2b4 c02e6f8b 3fbd9845 3f782045 3f3b73bc c03ebcc9 40117ebf bce6fdfb 3e620084 bffd3bc3 c032648f"), number(0x40bbc2e4), number(0x402adcbe)},
		{eventful(), number(0x41649249), number(0x40ac0fe3)},
		{otherwise(), 32, number(0x4110d329)},
	}
}

func TestRanges(t *testing.T) {
	for _, r := range rangeRows() {
		plain, ok := impl.RangeOfWalk(r.list)
		wantSum(t, "RangeOfWalk", plain, ok, r.plain)
		overSpread, ok := impl.RangeOverSpread(r.list)
		if r.overSpread < 0 {
			wantNone(t, "RangeOverSpread without a spread", overSpread, ok)
			continue
		}
		wantSum(t, "RangeOverSpread", overSpread, ok, r.overSpread)
	}
}

func TestRangesFail(t *testing.T) {
	for _, list := range append(wrongNumbers(), nil, []float32{}, []float32{mostNumber, -mostNumber}, []float32{-3e38, 1, 3e38}) {
		plain, ok := impl.RangeOfWalk(list)
		wantNone(t, "RangeOfWalk of a wrong list", plain, ok)
		overSpread, ok := impl.RangeOverSpread(list)
		wantNone(t, "RangeOverSpread of a wrong list", overSpread, ok)
	}
}

func TestMemorySlope(t *testing.T) {
	nine := numbers("bfd8da5c 3faf6a6f 3f111e28 c01d6660 4010001b bf5b34ba bff1f83d bff33e47 4022f2db")
	all := make([]int64, 16)
	for i := range all {
		all[i] = int64(i + 5)
	}
	rows := []struct {
		list  []float32
		sizes []int64
		want  float32
	}{
		{[]float32{1, -1, 1, -1, 1, 1, -1, -1}, []int64{4, 8}, number(0x3ed47fd2)},
		// Sizes that fill the list, and such that leave numbers behind them.
		{numbers("c03aa68f bfded546 bf96691d c004dbc7 c029a572 3faea5cf 3f9b829f 4012b504"), []int64{4, 8}, number(0x3f92aa9a)},
		{nine, []int64{2, 3, 4}, number(0x3f5944bf)},
		{numbers("bfd6732b bf31b069 3e9059fc bf5858c4 3f6f9394 c01e5686 bed73f0d 3f01dccb 3f36bb6d 3f275c74 bfb13766 3f543692"), []int64{3, 6, 12}, number(0x3efaeb94)},
		// Sizes need no order, and one can come more than once.
		{numbers("4035537d bdd7abf6 3f5d2cc1 4001653d bfbe33ed bfb3fe1f 40349159 bf990eb4 bee30d78 bf463e60 403d5f8f 3e8a787d 40181e15"), []int64{5, 2, 7, 13}, number(0x3f3e01e2)},
		{numbers("c0019e9e bfaac836 3f65ffc2 bf8b92e1 3f7ac45d 3d3dc00d c021ff1b c01511f9 bebc9a62 3e4e86f8 bff864f0 bfb5e23d c03f8a3d bfb3c42d bf928362 bf2b7e1b 3f0f2b59"), []int64{2, 4, 8, 16}, number(0x3f3c6326)},
		{nine, []int64{4, 9, 4}, number(0x3e63b2b2)},
		{eventful(), []int64{2, 256}, number(0x3eb18084)},
		{eventful(), []int64{3, 7, 10, 20, 50, 100}, number(0x3eb17160)},
		{eventful(), all, number(0x3ed170cf)},
		// What is left behind whole pieces does not count, even if it is not spread.
		{[]float32{1, -1, 2, 1, -1, 5, 9, 9}, []int64{3, 6}, number(0x3efdd00c)},
	}
	for _, r := range rows {
		got, ok := impl.MemorySlope(r.list, r.sizes)
		wantSum(t, "MemorySlope", got, ok, r.want)
	}
}

func TestMemorySlopeFails(t *testing.T) {
	fails := func(what string, list []float32, sizes ...int64) {
		t.Helper()
		got, ok := impl.MemorySlope(list, sizes)
		wantNone(t, "MemorySlope "+what, got, ok)
	}
	for _, list := range append(wrongNumbers(), nil, []float32{}, []float32{1}, []float32{1, 2}, []float32{1, 2, 4}) {
		fails("of a wrong list", list, 2, 4)
	}
	// Here, what is wrong lies behind all pieces.
	for _, x := range endlessNumbers() {
		fails("of a wrong list", []float32{1, -1, 2, 1, -1, 5, x}, 2, 3)
	}
	fails("of a list that is too long", append(eventful(), 1), 2, 4)
	list := eventful()[:20]
	fails("without sizes", list)
	fails("with one size", list, 4)
	fails("with equal sizes", list, 4, 4)
	fails("with too many sizes", list, 2, 3, 4, 5, 6, 7, 8, 9, 10, 2, 3, 4, 5, 6, 7, 8, 9)
	for _, size := range []int64{0, 1, -1, -4, 21, 257, math.MaxInt64, math.MinInt64} {
		fails("with a wrong size", list, 4, size)
		fails("with a wrong size", list, size, 4, 8)
	}
	fails("of a piece that is not spread", []float32{1, 2, 3, 5, 4, 4, 6, 7}, 2, 4)
	fails("of a piece that is not spread", []float32{4, 4, 3, 5}, 2, 4)
	fails("of equal numbers", repeated(float32(2), 16), 2, 4, 8)
	fails("of a spread that is not finite", []float32{1, 2, 1e20, 3e20}, 2, 4)
}

func TestStepGrowth(t *testing.T) {
	rows := []struct {
		list []float32
		lag  int64
		want float32
	}{
		{[]float32{0, 1, 3}, 1, 2.5},
		{[]float32{0, 1, 3}, 2, 9},
		{[]float32{3, 1, 0}, 1, 2.5},
		{repeated(float32(0.1), 256), 255, 0},
		{repeated(float32(0.1), 256), 1, 0},
		{[]float32{0, 1, 0, 1, 0}, 2, 0},
		{[]float32{0, 1e-30}, 1, 0},
		{numbers("40077018 3fa6e7a7"), 1, number(0x3f28e7be)},
		{numbers("3fb8e7d0 bfa6b542 bcd9dd3d 3fae3339"), 1, number(0x406cc683)},
		{numbers("401737df bfc75961 c03a3837 c02c7637"), 3, number(0x41cca061)},
		{numbers("3dbcd3b7 400ef079 c0051bbb 3fd9f2d2 3f58b9c3 400bb60a 401a00f2 c016c975 3fe19145"), 2, number(0x40aa424d)},
		{eventful(), 1, number(0x4240f163)},
		{eventful(), 17, number(0x4211a41d)},
		{eventful(), 255, number(0x42100000)},
	}
	for _, r := range rows {
		got, ok := impl.StepGrowth(r.list, r.lag)
		wantSum(t, "StepGrowth", got, ok, r.want)
	}
}

func TestStepGrowthFails(t *testing.T) {
	fails := func(what string, list []float32, lag int64) {
		t.Helper()
		got, ok := impl.StepGrowth(list, lag)
		wantNone(t, "StepGrowth "+what, got, ok)
	}
	for _, list := range append(wrongNumbers(), nil, []float32{}, []float32{1}) {
		fails("of a wrong list", list, 1)
	}
	for _, lag := range []int64{0, -1, 3, 4, 257, math.MaxInt64, math.MinInt64} {
		fails("with a wrong lag", []float32{1, 2, 4}, lag)
	}
	fails("with a difference that is not finite", []float32{mostNumber, -mostNumber}, 1)
	fails("with a square that is not finite", []float32{0, 1e20, 1e20}, 1)
	fails("with a sum that is not finite", []float32{0, 1.8e19, 0}, 1)
}

func TestTailSlope(t *testing.T) {
	rows := []struct {
		list  []float32
		count int64
		want  float32
	}{
		{[]float32{1, 2}, 1, number(0x3fb8aa3b)},
		{[]float32{2, 1}, 1, number(0x3fb8aa3b)},
		{[]float32{1, 4, 2}, 2, number(0x3f76384f)},
		{[]float32{2, 2, 1, 1, 1}, 2, number(0x3fb8aa3b)},
		// A quotient that is not finite makes a sum that is greater than 0, and a slope of nothing.
		{[]float32{leastNumber, mostNumber}, 1, 0},
		{[]float32{2 * leastNumber, leastNumber}, 1, number(0x3fb8aa3b)},
		{[]float32{1, afterOne}, 1, number(0x4b000001)},
		{numbers("3ee5f8fc 3ecce799"), 1, number(0x410aa140)},
		{numbers("3f9ced33 3fbef70d 3e82f238 3f5cfb17"), 1, number(0x40a30162)},
		{numbers("3f11542f 3ee563c7 3eaede3b 3df5f87b"), 3, number(0x3f442d1d)},
		{numbers("3f3117e6 3f81fb35 3fa4f0a5 40064faf 3fed7c11 3fbe9830 3f8052b4 3fee7d8f 3f1e7862"), 2, number(0x417b1deb)},
		{numbers("3f12ba0b 3ec43ded 40018e29 3eebf7b1 3f35181f 3f8b2717 3fdb5a04 3ffae966 3fe61031 3fe77d8d 3f1e46f4 402f8210"), 7, number(0x3f8786de)},
		{positive(), 255, number(0x3f046abc)},
		{positive(), 100, number(0x4085358c)},
	}
	for _, r := range rows {
		got, ok := impl.TailSlope(r.list, r.count)
		wantSum(t, "TailSlope", got, ok, r.want)
	}
}

func TestTailSlopeFails(t *testing.T) {
	fails := func(what string, list []float32, count int64) {
		t.Helper()
		got, ok := impl.TailSlope(list, count)
		wantNone(t, "TailSlope "+what, got, ok)
	}
	for _, list := range append(wrongNumbers(), nil, []float32{}, []float32{1}) {
		fails("of a wrong list", list, 1)
	}
	for _, x := range wrongSizes() {
		fails("of a number that is not greater than 0", []float32{x, 1, 2}, 1)
		fails("of a number that is not greater than 0", []float32{4, 2, x, 1}, 1)
	}
	for _, count := range []int64{0, -1, 3, 4, 257, math.MaxInt64, math.MinInt64} {
		fails("with a wrong count", []float32{1, 2, 4}, count)
	}
	fails("of equal numbers", []float32{1, 1}, 1)
	fails("of equal numbers", repeated(float32(0.1), 256), 255)
	fails("of equal numbers before others", []float32{1, 3, 3, 3, 2}, 2)
	fails("of equal numbers before others", positive(), 1)
}

func TestRankOf(t *testing.T) {
	rows := []struct {
		list []float32
		want []int64
	}{
		{nil, nil},
		{[]float32{7}, []int64{0}},
		{[]float32{1, 3, 3, 2}, []int64{1, 2, 3, 0}},
		{[]float32{1, 2, 3}, []int64{2, 1, 0}},
		{[]float32{3, 2, 1}, []int64{0, 1, 2}},
		// Zeros with and without a sign are equal.
		{[]float32{minusZero, 0, minusZero, 0}, []int64{0, 1, 2, 3}},
		{[]float32{0, minusZero, -leastNumber, leastNumber}, []int64{3, 0, 1, 2}},
		{[]float32{-mostNumber, mostNumber, 0, mostNumber}, []int64{1, 3, 2, 0}},
		{numbers("3fb61784 bf0f08b2 bf1ee4af"), []int64{0, 1, 2}},
		{numbers("3eec9931 c0121e08 3f5d7334 401ab762 bf50fa34 bbc70d02"), []int64{3, 2, 0, 5, 4, 1}},
		{numbers("bfbd9e04 401d471d bf3d6a7b bf56108f 3fa35ab3 bf43e267 401b8335 bf0853de 3f08befc bf95d39f 3f0953a2"), []int64{1, 6, 4, 10, 8, 7, 2, 5, 3, 9, 0}},
	}
	for _, r := range rows {
		got, ok := impl.RankOf(r.list)
		wantIntegers(t, "RankOf", got, ok, r.want)
	}
	got, ok := impl.RankOf(eventful())
	if !ok || len(got) != 256 || digestOf(got) != 0x6c81c82c {
		t.Errorf("RankOf the greatest list: got %v, %v", got, ok)
	}
	same := make([]int64, 256)
	for i := range same {
		same[i] = int64(i)
	}
	got, ok = impl.RankOf(repeated(float32(-2.5), 256))
	wantIntegers(t, "RankOf equal numbers", got, ok, same)
	for _, list := range wrongNumbers() {
		got, ok := impl.RankOf(list)
		wantNoList(t, "RankOf no list", got, ok)
	}
}

// TestRanksSort holds that ranks lead down the list, and that all indices are among them.
func TestRanksSort(t *testing.T) {
	for count := range 256 {
		list := eventful()[:count]
		ranks, ok := impl.RankOf(list)
		if !ok || len(ranks) != count {
			t.Fatalf("RankOf %d numbers has %d indices, %v", count, len(ranks), ok)
		}
		for k := 1; k < count; k++ {
			i, j := ranks[k-1], ranks[k]
			if list[i] < list[j] || list[i] == list[j] && i >= j {
				t.Errorf("RankOf %d numbers has %d before %d", count, i, j)
			}
		}
	}
}
