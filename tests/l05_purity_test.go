package tests

import (
	"math"
	"testing"

	"loop.example/g01318/impl"
)

// sheetsToTry are sheets, and such that are none.
func sheetsToTry() []impl.Sheet {
	list := append(validSheets(), wrongSheets()...)
	list = append(list, heights(2, mostNumber, mostNumber, 1, -mostNumber), heights(3, spread(21)...), heights(4, fewSpecials()[:8]...))
	return append(list, impl.Sheet{Wide: 1 << 33, High: 1 << 31}, impl.Sheet{Wide: -3, High: -7, Heights: specials()[:21]})
}

func callsOnSheets() []call {
	sheets := sheetsToTry()
	calls := on("ValidSheet", sheets, impl.ValidSheet)
	calls = append(calls, on("SameSheet", pairsOf(sheets), split(impl.SameSheet))...)
	calls = append(calls, onto("NormSheet", sheets, impl.NormSheet)...)
	calls = append(calls, onto("MassOfSheet", sheets, impl.MassOfSheet)...)
	for _, p := range pairsOf(fewSpecials()) {
		calls = append(calls, onto("WeighSheets", sheets, func(s impl.Sheet) (impl.Sheet, bool) { return impl.WeighSheets(s, s, p.one, p.two) })...)
		for _, s := range sheets {
			calls = append(calls, call{"TalusStep", func() []any { a, x, ok := impl.TalusStep(s, p.one, p.two/16); return []any{a, x, ok} }})
			calls = append(calls, call{"DropOn", func() []any { a, n, ok := impl.DropOn(s, 1, 0, 9, p.one, p.two); return []any{a, n, ok} }})
			calls = append(calls, call{"DropsOn", func() []any { a, n, ok := impl.DropsOn(s, 9, 9, p.one/2, p.two, 5); return []any{a, n, ok} }})
		}
	}
	calls = append(calls, onto("WeighSheets", pairsOf(sheets), splitOk(func(a, b impl.Sheet) (impl.Sheet, bool) { return impl.WeighSheets(a, b, 1, -1) }))...)
	for _, s := range sheets {
		calls = append(calls, call{"RangeOfSheet", func() []any { x, y, ok := impl.RangeOfSheet(s); return []any{x, y, ok} }})
		calls = append(calls, onto("CoastOf", specials(), func(level float32) (int64, bool) { return impl.CoastOf(s, level) })...)
		calls = append(calls, onto("ContourOf", specials(), func(level float32) ([]complex64, bool) { return impl.ContourOf(s, level) })...)
		for _, level := range specials() {
			calls = append(calls, call{"IslandsOver", func() []any { n, m, ok := impl.IslandsOver(s, level); return []any{n, m, ok} }})
		}
		calls = append(calls, onto("VariogramOf", someCounts(), func(lag int64) (float32, bool) { return impl.VariogramOf(s, lag) })...)
		calls = append(calls, onto("RoughnessOf", someCounts(), func(most int64) (float32, bool) { return impl.RoughnessOf(s, most) })...)
		for _, n := range someCounts() {
			calls = append(calls, call{"DropOn", func() []any { a, k, ok := impl.DropOn(s, n, 0, 5, 0.5, 0.25); return []any{a, k, ok} }})
			calls = append(calls, call{"DropOn", func() []any { a, k, ok := impl.DropOn(s, 0, n, n, 0.5, 0.25); return []any{a, k, ok} }})
			calls = append(calls, call{"DropsOn", func() []any { a, k, ok := impl.DropsOn(s, n, 128, 0.5, 0.25, 5); return []any{a, k, ok} }})
			calls = append(calls, call{"DropsOn", func() []any { a, k, ok := impl.DropsOn(s, 5, n, 0.5, 0.25, n); return []any{a, k, ok} }})
		}
	}
	return calls
}

func callsThatMakeSheets() []call {
	var calls []call
	for _, n := range append(someCounts(), 4, 17, 18) {
		for _, k := range append(someCounts(), 4, 17, 18) {
			calls = append(calls, onto("FlatSheet", fewSpecials(), func(height float32) (impl.Sheet, bool) { return impl.FlatSheet(n, k, height) })...)
			calls = append(calls, call{"OctaveSheet", func() []any { s, ok := impl.OctaveSheet(n, k, 3, 0.5, 0.5, 7); return []any{s, ok} }})
			calls = append(calls, call{"SheetShared", func() []any { s, ok := impl.SheetShared(k, 5, n, 0.5, 0.5, 7, 3); return []any{s, ok} }})
			calls = append(calls, call{"SheetShared", func() []any { s, ok := impl.SheetShared(3, 5, 2, 0.5, 0.5, n, k); return []any{s, ok} }})
			calls = append(calls, call{"LatticeAt", func() []any { x, ok := impl.LatticeAt(7, n, k); return []any{x, ok} }})
			calls = append(calls, call{"LatticeAt", func() []any { x, ok := impl.LatticeAt(n, k, 7); return []any{x, ok} }})
		}
		for _, list := range lists(specials()) {
			calls = append(calls, call{"DiamondSheet", func() []any { s, k, ok := impl.DiamondSheet(n, list, 1, 0.5, 7); return []any{s, k, ok} }})
		}
		calls = append(calls, call{"DiamondSheet", func() []any {
			s, k, ok := impl.DiamondSheet(3, []float32{1, 2, 3, 4}, 1, 0.5, n)
			return []any{s, k, ok}
		}})
		for _, x := range specials() {
			calls = append(calls, call{"SpectrumLine", func() []any { l, k, ok := impl.SpectrumLine(n, x, 5); return []any{l, k, ok} }})
			calls = append(calls, call{"SpectrumLine", func() []any { l, k, ok := impl.SpectrumLine(9, x, n); return []any{l, k, ok} }})
			calls = append(calls, onto("OctaveAt", specials(), func(y float32) (float32, bool) { return impl.OctaveAt(n, x, y) })...)
		}
	}
	for _, p := range pairsOf(specials()) {
		calls = append(calls, call{"OctaveSheet", func() []any { s, ok := impl.OctaveSheet(3, 2, 6, p.one, p.two, 7); return []any{s, ok} }})
		calls = append(calls, call{"DiamondSheet", func() []any {
			s, k, ok := impl.DiamondSheet(2, []float32{1, 2, 3, 4}, p.one, p.two, 7)
			return []any{s, k, ok}
		}})
	}
	return calls
}

func callsOnSpectra() []call {
	some := append(lists(specials()), lists([]float32{1, 2, 0.5, leastNumber})...)
	some = append(some, spread(40), spread(64), spread(65), repeated(float32(3), 64), repeated(mostNumber, 9))
	calls := onto("PowersOfLine", some, impl.PowersOfLine)
	return append(calls, onto("SlopeOfPowers", some, impl.SlopeOfPowers)...)
}

// TestSheetsDependOnArgumentsOnly calls every function of chapter 5 with whatever there is.
func TestSheetsDependOnArgumentsOnly(t *testing.T) {
	wantAgain(t, callsOnSheets())
	wantAgain(t, callsThatMakeSheets())
	wantAgain(t, callsOnSpectra())
}

func TestArgumentsOfSheetsStay(t *testing.T) {
	list := keep([]float32{1, minusZero, -1, leastNumber, 0.5, 3}, 77)
	other := keep([]float32{2, 0, minusZero, -3, 0.25, 8}, 88)
	s, second := heights(3, list.list...), heights(3, other.list...)
	if !impl.ValidSheet(s) || impl.SameSheet(s, second) {
		t.Error("the sheets are not as they must be")
	}
	impl.WeighSheets(s, second, 2, -1)
	impl.NormSheet(s)
	impl.RangeOfSheet(s)
	if _, moved, ok := impl.TalusStep(s, 0, 0.125); !ok || moved == 0 {
		t.Error("nothing slides")
	}
	if _, made, ok := impl.DropOn(s, 2, 1, 9, 0.5, 0.25); !ok || made == 0 {
		t.Error("a drop does not go")
	}
	for count := range int64(9) {
		impl.DropsOn(s, count, 9, 0.5, 0.25, 5)
	}
	impl.MassOfSheet(s)
	impl.IslandsOver(s, 0)
	impl.CoastOf(s, 0)
	impl.ContourOf(s, 0)
	impl.VariogramOf(s, 1)
	impl.RoughnessOf(s, 2)
	impl.PowersOfLine(list.list)
	wantUntouched(t, "a function of sheets", list.list, sameBits, list.was)
	wantUntouched(t, "WeighSheets", other.list, sameBits, other.was)

	corners := keep([]float32{1, 2, minusZero, 4}, 77)
	impl.DiamondSheet(2, corners.list, 1, 0.5, 5)
	wantUntouched(t, "DiamondSheet", corners.list, sameBits, corners.was)
	powers := keep([]float32{4, 3, 2, 1}, 77)
	impl.SlopeOfPowers(powers.list)
	wantUntouched(t, "SlopeOfPowers", powers.list, sameBits, powers.was)
}

func TestListsOfSheetsAreNew(t *testing.T) {
	s := heights(2, 1, 4, 3, 0)
	wantKeptApart(t, "FlatSheet", func() []float32 { a, _ := impl.FlatSheet(2, 2, 3); return a.Heights })
	wantKeptApart(t, "DiamondSheet", func() []float32 {
		a, _, _ := impl.DiamondSheet(1, s.Heights, 1, 1, 5)
		return a.Heights
	})
	wantKeptApart(t, "OctaveSheet", func() []float32 { a, _ := impl.OctaveSheet(3, 2, 2, 0.5, 0.5, 5); return a.Heights })
	wantKeptApart(t, "SheetShared", func() []float32 { a, _ := impl.SheetShared(3, 2, 2, 0.5, 0.5, 5, 2); return a.Heights })
	wantKeptApart(t, "WeighSheets", func() []float32 { a, _ := impl.WeighSheets(s, s, 1, 0); return a.Heights })
	wantKeptApart(t, "NormSheet", func() []float32 { a, _ := impl.NormSheet(s); return a.Heights })
	wantKeptApart(t, "TalusStep", func() []float32 { a, _, _ := impl.TalusStep(s, 9, 0); return a.Heights })
	wantKeptApart(t, "DropOn", func() []float32 { a, _, _ := impl.DropOn(s, 1, 0, 0, 0.5, 0); return a.Heights })
	wantKeptApart(t, "DropsOn of no drops", func() []float32 { a, _, _ := impl.DropsOn(s, 0, 5, 0.5, 0, 5); return a.Heights })
	wantKeptApart(t, "DropsOn", func() []float32 { a, _, _ := impl.DropsOn(s, 5, 5, 0.5, 0, 5); return a.Heights })
	wantKeptApart(t, "ContourOf", func() []complex64 { l, _ := impl.ContourOf(s, 2); return l })
	wantKeptApart(t, "SpectrumLine", func() []float32 { l, _, _ := impl.SpectrumLine(5, 1, 5); return l })
	wantKeptApart(t, "PowersOfLine", func() []float32 { l, _ := impl.PowersOfLine([]float32{1, 2, 4, 3, 5}); return l })
	wantSheet(t, "a sheet behind results that are overwritten", s, true, heights(2, 1, 4, 3, 0))
}

// TestWorkersMakeTheSameSheet holds promise 1 for all numbers of workers, again and again.
func TestWorkersMakeTheSameSheet(t *testing.T) {
	want, ok := impl.OctaveSheet(17, 17, 6, 0.7, 0.8, math.MaxInt32)
	if !ok {
		t.Fatal("OctaveSheet fails")
	}
	for i := range int64(80) {
		got, ok := impl.SheetShared(17, 17, 6, 0.7, 0.8, math.MaxInt32, i%8+1)
		wantSheet(t, "SheetShared", got, ok, want)
	}
}
