package tests

import (
	"math"
	"slices"
	"testing"

	"loop.example/g01318/impl"
)

// smallMapsToTry are maps at their bounds and beyond them, and such with special numbers of all kinds.
func smallMapsToTry() []impl.Small {
	list := append(validSmalls(), wrongSmalls()...)
	for i, x := range specials() {
		few := fewSpecials()
		list = append(list, impl.Small{Turn: complex(x, few[i%10]), Shift: complex(few[(3*i+1)%10], x), Flip: i%2 == 0, Share: few[(7*i+2)%10]})
	}
	return list
}

// smallListsToTry are small maps and lists that are none.
func smallListsToTry() [][]impl.Small {
	list := [][]impl.Small{
		bent(), triangle(), {half}, places(0.4995, 0.5, 0), repeated(impl.Small{Turn: 0.5, Share: 0.125}, 8),
		{{Turn: complex(beforeOne, 0), Shift: 1000, Flip: true, Share: 1}}, {{Turn: 0x1p-130, Share: 0.5}, {Turn: complex(leastNumber, leastNumber), Share: 0.5}},
	}
	return append(list, wrongLists()[:14]...)
}

func wordsToTry() [][]int64 {
	return append(wrongWords(), nil, []int64{0}, []int64{2, 1}, []int64{0, 1, 2, 0, 1, 2}, make([]int64, 24))
}

func callsOnSmalls() []call {
	maps := smallMapsToTry()
	calls := on("ValidSmall", maps, impl.ValidSmall)
	calls = append(calls, onto("RestOfSmall", maps, impl.RestOfSmall)...)
	calls = append(calls, onto("JoinSmalls", pairsOf(maps), splitOk(impl.JoinSmalls))...)
	for _, z := range placesToTry() {
		calls = append(calls, onto("MapSmall", maps, func(s impl.Small) (complex64, bool) { return impl.MapSmall(s, z) })...)
		calls = append(calls, onto("BackSmall", maps, func(s impl.Small) (complex64, bool) { return impl.BackSmall(s, z) })...)
	}
	return calls
}

func callsOnSmallLists() []call {
	lists := smallListsToTry()
	calls := on("AreSmalls", lists, impl.AreSmalls)
	calls = append(calls, on("SameSmalls", pairsOf(lists), split(impl.SameSmalls))...)
	calls = append(calls, onto("BallOf", lists, impl.BallOf)...)
	calls = append(calls, onto("SizeOfSmalls", lists, impl.SizeOfSmalls)...)
	for _, share := range fewSpecials() {
		calls = append(calls, onto("MixSmalls", pairsOf(lists), splitOk(func(a, b []impl.Small) ([]impl.Small, bool) {
			return impl.MixSmalls(a, b, share)
		}))...)
	}
	for _, list := range lists {
		calls = append(calls, onto("WordSmall", wordsToTry(), func(word []int64) (impl.Small, bool) { return impl.WordSmall(list, word) })...)
		calls = append(calls, onto("WordShare", wordsToTry(), func(word []int64) (float32, bool) { return impl.WordShare(list, word) })...)
		for _, z := range placesToTry() {
			calls = append(calls, onto("WordPlace", wordsToTry(), func(word []int64) (complex64, bool) { return impl.WordPlace(list, word, z) })...)
			calls = append(calls, onto("AddressOf", someCounts(), func(n int64) ([]int64, bool) { return impl.AddressOf(list, z, n) })...)
		}
		for _, n := range someCounts() {
			calls = append(calls, onto("WordAt", someCounts(), func(long int64) ([]int64, bool) { return impl.WordAt(list, n, long) })...)
		}
	}
	return calls
}

func callsOnWalks() []call {
	var calls []call
	for _, list := range smallListsToTry() {
		for _, n := range someCounts() {
			for _, z := range placesToTry() {
				calls = append(calls, call{"WalkSmalls", func() []any { w, s, ok := impl.WalkSmalls(list, z, n, 5); return []any{w, s, ok} }})
				calls = append(calls, call{"WalkSmalls", func() []any { w, s, ok := impl.WalkSmalls(list, z, 5, n); return []any{w, s, ok} }})
			}
			calls = append(calls, onto("WalksShared", lists(someCounts()), func(seeds []int64) ([][]complex64, bool) { return impl.WalksShared(list, 1, 5, seeds, n) })...)
			calls = append(calls, onto("WalksShared", someCounts(), func(count int64) ([][]complex64, bool) { return impl.WalksShared(list, 1, count, []int64{1, 2, 3}, n) })...)
			calls = append(calls, onto("BoxStep", lists([]bool{true, false, false, true}), func(mask []bool) ([]bool, bool) { return impl.BoxStep(list, mask, n) })...)
			for _, turns := range someCounts() {
				calls = append(calls, call{"FilledBoxes", func() []any { m, k, ok := impl.FilledBoxes(list, n, turns); return []any{m, k, ok} }})
			}
		}
	}
	return calls
}

func callsOnPoints() []call {
	var calls []call
	points := append(lists(smallOnes()), lists(spreadOver(3, 20))...)
	points = append(points, lists(placesToTry())...)
	for _, z := range placesToTry() {
		for _, some := range points {
			calls = append(calls, call{"NearestTo", func() []any { k, x, ok := impl.NearestTo(some, z); return []any{k, x, ok} }})
		}
	}
	calls = append(calls, onto("FarOf", pairsOf(points), splitOk(impl.FarOf))...)
	for _, p := range pairsOf(points) {
		calls = append(calls, call{"FitSmall", func() []any { s, x, ok := impl.FitSmall(p.one, p.two, false); return []any{s, x, ok} }})
		calls = append(calls, call{"FitSmall", func() []any { s, x, ok := impl.FitSmall(p.one, p.two, true); return []any{s, x, ok} }})
	}
	for _, list := range smallListsToTry() {
		calls = append(calls, onto("ImagesOf", points, func(some []complex64) ([]complex64, bool) { return impl.ImagesOf(list, some) })...)
		calls = append(calls, onto("CollageOf", points, func(some []complex64) (float32, bool) { return impl.CollageOf(list, some) })...)
	}
	return calls
}

// TestContractionsDependOnArgumentsOnly calls every function of chapter 3 with whatever there is.
func TestContractionsDependOnArgumentsOnly(t *testing.T) {
	wantAgain(t, callsOnSmalls())
	wantAgain(t, callsOnSmallLists())
	wantAgain(t, callsOnWalks())
	wantAgain(t, callsOnPoints())
}

// kept is an argument of a type, with what it was before.
type kept[A any] struct{ list, was []A }

func keep[A any](list []A, spare A) kept[A] {
	list = roomy(list, spare)
	return kept[A]{list, slices.Clone(list[:cap(list)])}
}

func sameSmall(a, b impl.Small) bool {
	return sameParts(a.Turn, b.Turn) && sameParts(a.Shift, b.Shift) && a.Flip == b.Flip && sameBits(a.Share, b.Share)
}

func sameBoxes(a, b bool) bool { return a == b }

func TestArgumentsOfContractionsStay(t *testing.T) {
	maps := keep(bent(), impl.Small{Share: 7})
	word := keep([]int64{2, 0, 1, 1}, 77)
	seeds := keep([]int64{5, 4, 3}, 77)
	points := keep([]complex64{1, complex(minusZero, 2), -1, 0.5}, 77)
	others := keep([]complex64{complex(leastNumber, 0.5), 0.25i, -0.5, 0.125}, 77)
	mask := keep(maskOf("#.", ".#"), true)
	impl.AreSmalls(maps.list)
	impl.SameSmalls(maps.list, maps.list)
	impl.WordSmall(maps.list, word.list)
	impl.WordPlace(maps.list, word.list, 1)
	impl.WordShare(maps.list, word.list)
	impl.WordAt(maps.list, 7, 3)
	impl.BallOf(maps.list)
	impl.SizeOfSmalls(maps.list)
	impl.WalkSmalls(maps.list, 1, 9, 9)
	impl.WalksShared(maps.list, 1, 9, seeds.list, 3)
	impl.ImagesOf(maps.list, points.list)
	impl.BoxStep(maps.list, mask.list, 2)
	impl.FilledBoxes(maps.list, 2, 2)
	impl.NearestTo(points.list, 0.5)
	impl.FarOf(points.list, others.list)
	impl.CollageOf(maps.list, points.list)
	for _, flip := range []bool{false, true} {
		if _, _, ok := impl.FitSmall(points.list, others.list, flip); !ok {
			t.Error("FitSmall fails")
		}
	}
	impl.MixSmalls(maps.list, maps.list, 0.5)
	impl.AddressOf(maps.list, 0.5, 5)
	wantUntouched(t, "a function of small maps", maps.list, sameSmall, maps.was)
	wantUntouched(t, "a function of a word", word.list, sameIntegers, word.was)
	wantUntouched(t, "WalksShared", seeds.list, sameIntegers, seeds.was)
	wantUntouched(t, "a function of points", points.list, sameParts, points.was)
	wantUntouched(t, "a function of points", others.list, sameParts, others.was)
	wantUntouched(t, "BoxStep", mask.list, sameBoxes, mask.was)
}

func TestListsOfContractionsAreNew(t *testing.T) {
	maps, points := bent(), []complex64{1, 2i}
	mask := maskOf("#.", ".#")
	wantKeptApart(t, "WordAt", func() []int64 { l, _ := impl.WordAt(maps, 26, 3); return l })
	wantKeptApart(t, "WalkSmalls", func() []complex64 { l, _, _ := impl.WalkSmalls(maps, 1, 3, 4); return l })
	wantKeptApart(t, "ImagesOf", func() []complex64 { l, _ := impl.ImagesOf(maps, points); return l })
	wantKeptApart(t, "BoxStep", func() []bool { l, _ := impl.BoxStep([]impl.Small{half}, mask, 2); return l })
	wantKeptApart(t, "FilledBoxes", func() []bool { l, _, _ := impl.FilledBoxes([]impl.Small{half}, 2, 0); return l })
	wantKeptApart(t, "FilledBoxes after turns", func() []bool { l, _, _ := impl.FilledBoxes([]impl.Small{half}, 2, 9); return l })
	wantKeptApart(t, "MixSmalls", func() []impl.Small { l, _ := impl.MixSmalls(maps, maps, 0.25); return l })
	wantKeptApart(t, "AddressOf", func() []int64 { l, _ := impl.AddressOf(maps, 0.5, 4); return l })
	for i := range 3 {
		wantKeptApart(t, "WalksShared", func() []complex64 {
			walks, _ := impl.WalksShared(maps, 1, 3, []int64{4, 4, 5}, 2)
			return walks[i]
		})
	}
}

// TestWalksShareNoMemory overwrites one walk of many, with what is behind it.
func TestWalksShareNoMemory(t *testing.T) {
	seeds := []int64{4, 4, math.MaxInt32}
	for workers := int64(1); workers <= 3; workers++ {
		for i := range seeds {
			want, _ := impl.WalksShared(bent(), 1, 5, seeds, workers)
			got, ok := impl.WalksShared(bent(), 1, 5, seeds, workers)
			for k := range got[i][:cap(got[i])] {
				got[i][:cap(got[i])][k] = 77
			}
			want[i] = got[i]
			wantWalks(t, "WalksShared beside a walk that is overwritten", got, ok, want)
		}
	}
}
