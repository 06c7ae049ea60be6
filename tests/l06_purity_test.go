package tests

import (
	"testing"

	"loop.example/g01318/impl"
)

// listsToMeasure are lists of numbers, and such that are none.
func listsToMeasure() [][]float32 {
	list := append(lists(specials()), lists([]float32{1, 2, 0.5, leastNumber})...)
	list = append(list, lists(fewSpecials()[:4])...)
	list = append(list, wrongNumbers()[:9]...)
	return append(list, spread(40), eventful(), otherwise(), positive(), []float32{mostNumber, 1}, []float32{mostNumber, -mostNumber, 0})
}

// massesToTry are masses, and lists that are none.
func massesToTry() [][]int64 {
	list := append(lists(someCounts()), lists([]int64{0, 3, 1000000, 7})...)
	return append(append(list, wrongMasses()...), scattered(), []int64{5}, []int64{0, 1, 2})
}

func callsOnBoxes() []call {
	var calls []call
	lines := append(linesToTry(), cloudOf(eventful(), otherwise()))
	for _, points := range lines {
		calls = append(calls, onto("BoxesOf", specials(), func(x float32) (int64, bool) { return impl.BoxesOf(points, x) })...)
		calls = append(calls, onto("BoxMasses", specials(), func(x float32) ([]int64, bool) { return impl.BoxMasses(points, x) })...)
		calls = append(calls, onto("RulerLong", specials(), func(x float32) (float32, bool) { return impl.RulerLong(points, x) })...)
		calls = append(calls, onto("PairShare", specials(), func(x float32) (float32, bool) { return impl.PairShare(points, x) })...)
		for _, x := range specials() {
			calls = append(calls, call{"RulerCount", func() []any { n, left, ok := impl.RulerCount(points, x); return []any{n, left, ok} }})
			calls = append(calls, onto("MassIn", someEnds(), func(z complex64) (int64, bool) { return impl.MassIn(points, z, x) })...)
		}
	}
	for _, points := range append(lines[:9], lines[len(lines)-6:]...) {
		calls = append(calls, onto("BoxesOfSizes", listsToMeasure(), func(sizes []float32) ([]float32, bool) { return impl.BoxesOfSizes(points, sizes) })...)
		calls = append(calls, onto("BoxSlope", listsToMeasure(), func(sizes []float32) (float32, bool) { return impl.BoxSlope(points, sizes) })...)
	}
	return append(calls, onto("SetDistance", pairsOf(lines), splitOk(impl.SetDistance))...)
}

func callsOnMeasures() []call {
	some := listsToMeasure()
	calls := on("IsList", some, impl.IsList)
	calls = append(calls, onto("LogsOf", some, impl.LogsOf)...)
	calls = append(calls, onto("GapsOf", some, impl.GapsOf)...)
	calls = append(calls, onto("RangeOfWalk", some, impl.RangeOfWalk)...)
	calls = append(calls, onto("RangeOverSpread", some, impl.RangeOverSpread)...)
	calls = append(calls, onto("RankOf", some, impl.RankOf)...)
	calls = append(calls, onto("SlopeDoubt", pairsOf(some), splitOk(impl.SlopeDoubt))...)
	for _, p := range pairsOf(some) {
		calls = append(calls, call{"SlopeOf", func() []any { s, b, ok := impl.SlopeOf(p.one, p.two); return []any{s, b, ok} }})
	}
	for _, list := range some {
		calls = append(calls, onto("StepGrowth", someCounts(), func(lag int64) (float32, bool) { return impl.StepGrowth(list, lag) })...)
		calls = append(calls, onto("TailSlope", someCounts(), func(count int64) (float32, bool) { return impl.TailSlope(list, count) })...)
		sizes := append(lists(someCounts()), []int64{2, 3}, []int64{2, 4, 8, 16, 32}, []int64{5, 2, 5}, []int64{2, 256})
		calls = append(calls, onto("MemorySlope", sizes, func(sizes []int64) (float32, bool) { return impl.MemorySlope(list, sizes) })...)
	}
	for _, masses := range massesToTry() {
		calls = append(calls, onto("SpectrumOf", specials(), func(power float32) (float32, bool) { return impl.SpectrumOf(masses, power) })...)
	}
	return append(calls, onto("GapRatio", massesToTry(), impl.GapRatio)...)
}

func callsThatMakeLists() []call {
	calls := onto("CantorSet", append(someCounts(), 8, 9), impl.CantorSet)
	for _, n := range append(someCounts(), 32, 33, 256) {
		calls = append(calls, onto("StairsAt", specials(), func(x float32) (float32, bool) { return impl.StairsAt(x, n) })...)
		calls = append(calls, onto("SizesOf", pairsOf(specials()), func(p pair[float32]) ([]float32, bool) { return impl.SizesOf(p.one, p.two, n) })...)
		for _, keep := range specials() {
			calls = append(calls, call{"NoiseWalk", func() []any { w, s, ok := impl.NoiseWalk(n, keep, 5); return []any{w, s, ok} }})
			calls = append(calls, call{"NoiseWalk", func() []any { w, s, ok := impl.NoiseWalk(5, keep, n); return []any{w, s, ok} }})
		}
	}
	return calls
}

// TestMeasuresDependOnArgumentsOnly calls every function of chapter 6 with whatever there is.
func TestMeasuresDependOnArgumentsOnly(t *testing.T) {
	wantAgain(t, callsOnBoxes())
	wantAgain(t, callsOnMeasures())
	wantAgain(t, callsThatMakeLists())
}

func TestArgumentsOfMeasuresStay(t *testing.T) {
	list := keep([]float32{3, minusZero, -1, 0, leastNumber, 2.5, 3, 0.5}, 77)
	other := keep([]float32{8, 0.25, minusZero, 5, 1, 3, -2, 7}, 88)
	above := keep([]float32{4, 1, 2.5, 0.5}, 77)
	points := keep([]complex64{3, complex(minusZero, 2), -1, complex(0.5, -4), 3}, 77)
	others := keep([]complex64{complex(leastNumber, 0.5), 0.25i, -0.5}, 77)
	masses := keep([]int64{3, 0, 1, 2}, 77)
	sizes := keep([]int64{8, 2, 4}, 77)
	impl.IsList(list.list)
	impl.BoxesOf(points.list, 0.5)
	impl.BoxesOfSizes(points.list, above.list)
	impl.BoxMasses(points.list, 0.5)
	impl.RulerCount(points.list, 0.5)
	impl.RulerLong(points.list, 0.5)
	impl.MassIn(points.list, 1, 2)
	impl.PairShare(points.list, 2)
	impl.SlopeOf(list.list, other.list)
	impl.SlopeDoubt(list.list, other.list)
	impl.LogsOf(above.list)
	impl.BoxSlope(points.list, above.list)
	for _, power := range []float32{0, 1, 2} {
		impl.SpectrumOf(masses.list, power)
	}
	impl.GapRatio(masses.list)
	if gaps, ok := impl.GapsOf(list.list); !ok || len(gaps) != 7 {
		t.Error("GapsOf fails")
	}
	impl.SetDistance(points.list, others.list)
	impl.RangeOfWalk(list.list)
	impl.RangeOverSpread(list.list)
	if _, ok := impl.MemorySlope(other.list, sizes.list); !ok {
		t.Error("MemorySlope fails")
	}
	impl.StepGrowth(list.list, 3)
	if _, ok := impl.TailSlope(above.list, 2); !ok {
		t.Error("TailSlope fails")
	}
	impl.RankOf(list.list)
	wantUntouched(t, "a function of lists", list.list, sameBits, list.was)
	wantUntouched(t, "a function of lists", other.list, sameBits, other.was)
	wantUntouched(t, "a function of sizes", above.list, sameBits, above.was)
	wantUntouched(t, "a function of points", points.list, sameParts, points.was)
	wantUntouched(t, "SetDistance", others.list, sameParts, others.was)
	wantUntouched(t, "a function of masses", masses.list, sameIntegers, masses.was)
	wantUntouched(t, "MemorySlope", sizes.list, sameIntegers, sizes.was)
}

func TestListsOfMeasuresAreNew(t *testing.T) {
	points, list := []complex64{3, 2i, -1, 3}, []float32{3, 1, 2}
	wantKeptApart(t, "BoxesOfSizes", func() []float32 { l, _ := impl.BoxesOfSizes(points, list); return l })
	wantKeptApart(t, "BoxMasses", func() []int64 { l, _ := impl.BoxMasses(points, 0.5); return l })
	wantKeptApart(t, "LogsOf", func() []float32 { l, _ := impl.LogsOf(list); return l })
	wantKeptApart(t, "SizesOf", func() []float32 { l, _ := impl.SizesOf(3, 0.5, 4); return l })
	wantKeptApart(t, "CantorSet", func() []float32 { l, _ := impl.CantorSet(4); return l })
	wantKeptApart(t, "GapsOf", func() []float32 { l, _ := impl.GapsOf(list); return l })
	wantKeptApart(t, "NoiseWalk", func() []float32 { l, _, _ := impl.NoiseWalk(5, 0.5, 5); return l })
	wantKeptApart(t, "RankOf", func() []int64 { l, _ := impl.RankOf(list); return l })
	set, _ := impl.CantorSet(0)
	set[0] = 77
	set, ok := impl.CantorSet(0)
	wantNumbers(t, "CantorSet of no depth behind one that is overwritten", set, ok, []float32{0})
	wantNumbers(t, "a list behind results that are overwritten", list, true, []float32{3, 1, 2})
	wantList(t, "points behind results that are overwritten", points, true, []complex64{3, 2i, -1, 3})
}
