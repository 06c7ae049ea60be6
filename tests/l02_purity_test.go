package tests

import (
	"math"
	"testing"

	"loop.example/g01318/impl"
)

func someCounts() []int64 {
	return []int64{0, 1, -1, 2, 5, 128, 129, 257, math.MaxInt64, math.MinInt64}
}

// placesToTry are small numbers and others, from all over the plane.
func placesToTry() []complex64 {
	return append(append(smallOnes(), largeOnes()[:9]...), append(spreadOver(2, 6), complex(inf, nan), complex(nan, 1))...)
}

func mapsToTry() []impl.Map {
	maps := append(wrongMaps()[:9], square(-2))
	for i, c := range placesToTry() {
		maps = append(maps, impl.Map{Kind: int64(i % 4), C: c})
	}
	return maps
}

func viewsToTry() []impl.View {
	return append(validViews(), wrongViews()...)
}

func callsOnMaps() []call {
	var calls []call
	maps, places := mapsToTry(), placesToTry()
	calls = append(calls, on("ValidMap", maps, impl.ValidMap)...)
	calls = append(calls, on("SameMap", pairsOf(maps), split(impl.SameMap))...)
	for _, m := range maps {
		calls = append(calls, onto("MapOnce", places, func(z complex64) (complex64, bool) { return impl.MapOnce(m, z) })...)
		calls = append(calls, onto("SpreadOf", places, func(z complex64) (float32, bool) { return impl.SpreadOf(m, z) })...)
		for _, n := range someCounts() {
			calls = append(calls, onto("OrbitOf", places, func(z complex64) ([]complex64, bool) { return impl.OrbitOf(m, z, n) })...)
			calls = append(calls, onto("EscapeOf", places, func(z complex64) (int64, bool) { return impl.EscapeOf(m, z, n) })...)
			calls = append(calls, onto("SmoothOf", places, func(z complex64) (float32, bool) { return impl.SmoothOf(m, z, n) })...)
			for _, near := range fewSpecials() {
				calls = append(calls, onto("PeriodOf", places[:9], func(z complex64) (int64, bool) { return impl.PeriodOf(m, z, 1, n, near) })...)
				calls = append(calls, onto("PeriodOf", places[:9], func(z complex64) (int64, bool) { return impl.PeriodOf(m, z, n, 9, near) })...)
			}
		}
	}
	return calls
}

func callsOnPlaces() []call {
	places := placesToTry()
	calls := on("InHeart", places, impl.InHeart)
	for _, z := range places {
		calls = append(calls, call{"RestsOf", func() []any { a, b, ok := impl.RestsOf(z); return []any{a, b, ok} }})
		calls = append(calls, onto("RootStep", someCounts(), func(n int64) (complex64, bool) { return impl.RootStep(n, z) })...)
		calls = append(calls, onto("BorderOf", someCounts(), func(n int64) (float32, bool) { return impl.BorderOf(z, n) })...)
		for _, n := range someCounts() {
			calls = append(calls, call{"RootOf", func() []any { k, s, ok := impl.RootOf(3, z, n); return []any{k, s, ok} }})
			calls = append(calls, call{"RootOf", func() []any { k, s, ok := impl.RootOf(n, z, 9); return []any{k, s, ok} }})
			calls = append(calls, call{"InverseWalk", func() []any { w, s, ok := impl.InverseWalk(0.5, z, n, 7); return []any{w, s, ok} }})
			calls = append(calls, call{"InverseWalk", func() []any { w, s, ok := impl.InverseWalk(z, 1, 5, n); return []any{w, s, ok} }})
		}
		for _, flush := range []bool{false, true} {
			calls = append(calls, onto("NearEscape", lists(places), func(orbit []complex64) (int64, bool) { return impl.NearEscape(orbit, z, flush) })...)
		}
	}
	return calls
}

func callsOnViews() []call {
	var calls []call
	views := viewsToTry()
	calls = append(calls, on("ValidView", views, impl.ValidView)...)
	calls = append(calls, on("SameView", pairsOf(views), split(impl.SameView))...)
	for _, v := range views {
		calls = append(calls, onto("ZoomView", specials(), func(by float32) (impl.View, bool) { return impl.ZoomView(v, 1, by) })...)
		calls = append(calls, onto("ZoomView", placesToTry(), func(at complex64) (impl.View, bool) { return impl.ZoomView(v, at, 2) })...)
		calls = append(calls, onto("BordersIn", lists(integers()), func(counts []int64) ([]int64, bool) { return impl.BordersIn(v, counts) })...)
		for _, n := range someCounts() {
			calls = append(calls, onto("PlaceOf", someCounts(), func(row int64) (complex64, bool) { return impl.PlaceOf(v, n, row) })...)
			calls = append(calls, onto("EscapesShared", someCounts(), func(workers int64) ([]int64, bool) { return impl.EscapesShared(v, n, workers) })...)
			calls = append(calls, onto("BasinsIn", someCounts()[:5], func(k int64) ([]int64, bool) { return impl.BasinsIn(k, v, n) })...)
			calls = append(calls, onto("OrbitsIn", mapsToTry()[:14], func(m impl.Map) ([]int64, bool) { return impl.OrbitsIn(m, v, n) })...)
			calls = append(calls, call{"EscapesIn", func() []any { l, ok := impl.EscapesIn(v, n); return []any{l, ok} }})
		}
	}
	for _, most := range someCounts() {
		calls = append(calls, onto("CountsOf", lists(integers()), func(list []int64) ([]int64, bool) { return impl.CountsOf(list, most) })...)
	}
	return calls
}

// TestMapsDependOnArgumentsOnly calls every function of chapter 2 with whatever there is.
func TestMapsDependOnArgumentsOnly(t *testing.T) {
	wantAgain(t, append(append(callsOnMaps(), callsOnPlaces()...), callsOnViews()...))
}

func TestArgumentsOfMapsStay(t *testing.T) {
	orbit := roomy([]complex64{0, complex(minusZero, 1), complex(-1, leastNumber), 7}, 77)
	was := append([]complex64(nil), orbit[:cap(orbit)]...)
	impl.NearEscape(orbit, complex(0.25, leastNumber), false)
	impl.NearEscape(orbit, complex(0.25, leastNumber), true)
	wantUntouched(t, "NearEscape", orbit, sameParts, was)
	counts := roomy([]int64{3, 1, 2, 2}, 77)
	were := append([]int64(nil), counts[:cap(counts)]...)
	impl.CountsOf(counts, 5)
	impl.BordersIn(impl.View{Wide: 1, Columns: 2, Rows: 2}, counts)
	wantUntouched(t, "a function of counts", counts, sameIntegers, were)
}

// wantKeptApart makes a list twice, and overwrites the first one with what is behind it.
func wantKeptApart[A comparable](t *testing.T, what string, build func() []A) {
	t.Helper()
	first, second := build(), build()
	want := append([]A(nil), second...)
	var zero A
	for i := range first[:cap(first)] {
		first[:cap(first)][i] = zero
	}
	for i, x := range build() {
		if second[i] != want[i] || x != want[i] {
			t.Errorf("%s: a list shares memory with another one", what)
			return
		}
	}
}

func TestListsOfMapsAreNew(t *testing.T) {
	small := impl.View{Middle: 1, Wide: 2, Columns: 2, Rows: 2}
	wantKeptApart(t, "OrbitOf", func() []complex64 { l, _ := impl.OrbitOf(square(1), 5, 3); return l })
	wantKeptApart(t, "InverseWalk", func() []complex64 { l, _, _ := impl.InverseWalk(1, 5, 3, 4); return l })
	wantKeptApart(t, "EscapesIn", func() []int64 { l, _ := impl.EscapesIn(small, 9); return l })
	wantKeptApart(t, "EscapesShared", func() []int64 { l, _ := impl.EscapesShared(small, 9, 3); return l })
	wantKeptApart(t, "OrbitsIn", func() []int64 { l, _ := impl.OrbitsIn(square(0.5), small, 9); return l })
	wantKeptApart(t, "BasinsIn", func() []int64 { l, _ := impl.BasinsIn(3, small, 9); return l })
	wantKeptApart(t, "CountsOf", func() []int64 { l, _ := impl.CountsOf([]int64{1, 2, 1, 0}, 2); return l })
	wantKeptApart(t, "BordersIn", func() []int64 { l, _ := impl.BordersIn(small, []int64{1, 2, 3, 3}); return l })
}
