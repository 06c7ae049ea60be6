package tests

import (
	"testing"

	"loop.example/g01318/impl"
)

var leastView = impl.View{Wide: leastNumber, Columns: 1, Rows: 1}

// aView has 7 columns and 5 rows around the largest part.
var aView = impl.View{Middle: complex(-0.5, 0.1), Wide: 3, Columns: 7, Rows: 5}

func validViews() []impl.View {
	list := []impl.View{
		leastView, aView,
		{Middle: complex(mostSmall, -mostSmall), Wide: mostSmall, Columns: 16, Rows: 16},
		{Middle: complex(minusZero, leastNumber), Wide: leastNormal, Columns: 1, Rows: 16},
	}
	return append(list, impl.View{Wide: 1, Columns: 16, Rows: 1})
}

func wrongViews() []impl.View {
	list := []impl.View{{}, {Wide: 1}, {Wide: 1, Columns: 1}, {Wide: 1, Rows: 1}}
	for _, wide := range []float32{0, minusZero, -1, -leastNumber, afterSmall, inf, minusInf, nan} {
		list = append(list, impl.View{Wide: wide, Columns: 2, Rows: 2})
	}
	for _, n := range []int64{0, -1, 17, 1 << 32, 1<<63 - 1, -1 << 63} {
		list = append(list, impl.View{Wide: 1, Columns: n, Rows: 2}, impl.View{Wide: 1, Columns: 2, Rows: n})
	}
	for _, middle := range largeOnes() {
		list = append(list, impl.View{Middle: middle, Wide: 1, Columns: 2, Rows: 2})
	}
	return list
}

func TestValidView(t *testing.T) {
	for _, v := range validViews() {
		if !impl.ValidView(v) {
			t.Errorf("ValidView does not take %v", v)
		}
	}
	for _, v := range wrongViews() {
		if impl.ValidView(v) {
			t.Errorf("ValidView takes %v", v)
		}
	}
}

func TestSameView(t *testing.T) {
	change := func(f func(v *impl.View)) impl.View {
		v := aView
		f(&v)
		return v
	}
	others := []impl.View{
		change(func(v *impl.View) { v.Middle = complex(-0.5, -0.1) }),
		change(func(v *impl.View) { v.Middle = complex(0.5, 0.1) }),
		change(func(v *impl.View) { v.Wide = number(0x40400001) }),
		change(func(v *impl.View) { v.Columns = 5 }),
		change(func(v *impl.View) { v.Rows = 7 }),
		change(func(v *impl.View) { v.Rows = 5 + 1<<32 }),
	}
	for _, v := range others {
		wantBool(t, "SameView of others", impl.SameView(aView, v), false)
		wantBool(t, "SameView of others", impl.SameView(v, aView), false)
		wantBool(t, "SameView of itself", impl.SameView(v, v), true)
	}
	zero := impl.View{}
	rows := []struct {
		a, b impl.View
		want bool
	}{
		{zero, impl.View{Wide: minusZero}, false},
		{zero, impl.View{Middle: complex(minusZero, 0)}, false},
		{zero, impl.View{Middle: complex(0, minusZero)}, false},
		{impl.View{Middle: complex(nan, otherNaN), Wide: nan}, impl.View{Middle: complex(otherNaN, nan), Wide: otherNaN}, true},
		{impl.View{Wide: inf}, impl.View{Wide: minusInf}, false},
		{impl.View{Wide: -1, Columns: -5, Rows: 1 << 40}, impl.View{Wide: -1, Columns: -5, Rows: 1 << 40}, true},
	}
	for _, r := range rows {
		wantBool(t, "SameView", impl.SameView(r.a, r.b), r.want)
		wantBool(t, "SameView, the other way", impl.SameView(r.b, r.a), r.want)
	}
}

func TestPlaceOf(t *testing.T) {
	rows := []struct {
		v           impl.View
		column, row int64
		want        complex64
	}{
		{impl.View{Wide: 4, Columns: 2, Rows: 2}, 0, 0, complex(-1, 1)},
		{impl.View{Wide: 4, Columns: 2, Rows: 2}, 1, 1, complex(1, -1)},
		{impl.View{Middle: complex(3, -2), Wide: 4, Columns: 2, Rows: 1}, 0, 0, complex(2, -2)},
		{impl.View{Middle: complex(3, -2), Wide: 5, Columns: 1, Rows: 3}, 0, 2, complex(3, -7)},
		{impl.View{Middle: complex(3, -2), Wide: 1, Columns: 1, Rows: 1}, 0, 0, complex(3, -2)},
		{leastView, 0, 0, 0},
		{impl.View{Middle: complex(minusZero, minusZero), Wide: 1, Columns: 1, Rows: 1}, 0, 0, complex(0, minusZero)},
		{impl.View{Wide: leastNumber, Columns: 1, Rows: 16}, 0, 0, complex(0, number(8))}, // 7.5 to even
		{impl.View{Middle: complex(mostSmall, mostSmall), Wide: mostSmall, Columns: 1, Rows: 16}, 0, 0, complex(1000, 8500)},
		{impl.View{Middle: complex(mostSmall, mostSmall), Wide: mostSmall, Columns: 16, Rows: 16}, 15, 15, complex(1468.75, 531.25)},
		{impl.View{Middle: at(0xbff7cef6bf09c307), Wide: number(0x4080d41b), Columns: 9, Rows: 15}, 8, 1, at(0xbe163d50400954b7)},
		{impl.View{Middle: at(0x3fa8b53bbe9e05a1), Wide: number(0x40906caf), Columns: 4, Rows: 15}, 0, 2, at(0xbebfb72c40aaa781)},
		{impl.View{Middle: at(0x3fd9e8e8be1d64d2), Wide: number(0x408bfde7), Columns: 4, Rows: 6}, 2, 2, at(0x400ff3ee3ec94965)},
		{impl.View{Middle: at(0x3fd8c5b5bfc54aed), Wide: number(0x405e986d), Columns: 9, Rows: 1}, 2, 0, at(0x3f6bae97bfc54aed)},
		{impl.View{Middle: at(0xbf6c1aabbf8de405), Wide: number(0x3fa32e0d), Columns: 11, Rows: 6}, 10, 0, at(0xbeaf8484bf519bd6)},
		{impl.View{Middle: at(0x3e6408513fcdc8c6), Wide: number(0x40707e9f), Columns: 6, Rows: 2}, 5, 0, at(0x3fe4ea8e3ff5dde0)},
	}
	for _, r := range rows {
		got, ok := impl.PlaceOf(r.v, r.column, r.row)
		wantComplexSum(t, "PlaceOf", got, ok, r.want)
	}
	for _, n := range []int64{-1, 1 << 32, 1<<63 - 1, -1 << 63} {
		got, ok := impl.PlaceOf(aView, n, 0)
		wantNone(t, "PlaceOf a wrong column", got, ok)
		got, ok = impl.PlaceOf(aView, 0, n)
		wantNone(t, "PlaceOf a wrong row", got, ok)
	}
	got, ok := impl.PlaceOf(aView, 7, 0)
	wantNone(t, "PlaceOf the column after the last", got, ok)
	got, ok = impl.PlaceOf(aView, 0, 5)
	wantNone(t, "PlaceOf the row after the last", got, ok)
	if _, ok = impl.PlaceOf(aView, 6, 4); !ok {
		t.Error("PlaceOf fails with the last place")
	}
	for _, v := range wrongViews() {
		got, ok := impl.PlaceOf(v, 0, 0)
		wantNone(t, "PlaceOf of a wrong view", got, ok)
	}
}

func TestZoomView(t *testing.T) {
	rows := []struct {
		at   complex64
		by   float32
		wide float32 // 0 if it fails
	}{
		{1, 2, 1.5}, {complex(minusZero, 2), 1, 3}, {complex(mostSmall, -mostSmall), 0.5, 6},
		{0, 3, 1}, {0, 7, number(0x3edb6db7)}, {0, 0.003, 1000}, {0, number(0x3b449ba5), 0},
		{0, leastNumber, 0}, {0, 0, 0}, {0, minusZero, 0}, {0, -1, 0}, {0, -leastNumber, 0},
		{0, inf, 0}, {0, minusInf, 0}, {0, nan, 0}, {0, mostNumber, number(0x00600000)},
	}
	for _, r := range rows {
		got, ok := impl.ZoomView(aView, r.at, r.by)
		if r.wide == 0 {
			wantNone(t, "ZoomView", got, ok)
			continue
		}
		want := impl.View{Middle: r.at, Wide: r.wide, Columns: 7, Rows: 5}
		if !ok || !impl.SameView(got, want) {
			t.Errorf("ZoomView at %v by %v: got %v, %v, want %v", r.at, r.by, got, ok, want)
		}
	}
	got, ok := impl.ZoomView(leastView, 0, 1)
	if !ok || got != leastView {
		t.Errorf("ZoomView of the least view: got %v, %v", got, ok)
	}
	got, ok = impl.ZoomView(leastView, 0, 2)
	wantNone(t, "ZoomView nearer than the least view", got, ok)
	for _, v := range wrongViews() {
		got, ok := impl.ZoomView(v, 0, 2)
		wantNone(t, "ZoomView of a wrong view", got, ok)
	}
	got, ok = impl.ZoomView(impl.View{Wide: 2000, Columns: 2, Rows: 2}, 0, 4)
	wantNone(t, "ZoomView of a view that is too wide", got, ok)
	for _, at := range largeOnes() {
		got, ok := impl.ZoomView(aView, at, 2)
		wantNone(t, "ZoomView at a large number", got, ok)
	}
}

func TestEscapesIn(t *testing.T) {
	two := impl.View{Wide: 4, Columns: 2, Rows: 2}
	one := impl.View{Middle: 1, Wide: 4, Columns: 1, Rows: 1}
	rows := []struct {
		v    impl.View
		most int64
		want []int64
	}{
		{two, 5, []int64{3, 2, 3, 2}},
		{two, 2, []int64{2, 2, 2, 2}},
		{two, 0, []int64{0, 0, 0, 0}},
		{one, 128, []int64{3}},
		{leastView, 128, []int64{128}},
		{aView, 30, []int64{1, 3, 3, 4, 12, 3, 2, 3, 3, 5, 30, 30, 21, 3, 4, 13, 30, 30, 30, 30, 3, 3, 6, 10, 30, 30, 30, 3, 2, 3, 4, 6, 30, 5, 2}},
	}
	for _, r := range rows {
		got, ok := impl.EscapesIn(r.v, r.most)
		wantIntegers(t, "EscapesIn", got, ok, r.want)
		for workers := int64(1); workers <= 8; workers++ {
			got, ok := impl.EscapesShared(r.v, r.most, workers)
			wantIntegers(t, "EscapesShared", got, ok, r.want)
		}
	}
}

// TestAnyNumberOfWorkers holds that the number of workers makes no difference, again and again.
func TestAnyNumberOfWorkers(t *testing.T) {
	for i, middle := range spreadOver(1, 30) {
		v := impl.View{Middle: middle, Wide: 2, Columns: int64(i*7%16) + 1, Rows: 16 - int64(i*5%16)}
		most := int64(100 + i%29)
		want, ok := impl.EscapesIn(v, most)
		wantBool(t, "EscapesIn: success", ok, true)
		for column := range v.Columns {
			for row := range v.Rows {
				place, _ := impl.PlaceOf(v, column, row)
				n, ok := impl.EscapeOf(square(place), 0, most)
				wantInteger(t, "a place of EscapesIn", want[row*v.Columns+column], ok, n)
			}
		}
		for workers := int64(1); workers <= 8; workers++ {
			got, ok := impl.EscapesShared(v, most, workers)
			wantIntegers(t, "EscapesShared", got, ok, want)
		}
	}
	whole := impl.View{Middle: complex(-0.5, 0), Wide: 3, Columns: 16, Rows: 16}
	want, ok := impl.EscapesIn(whole, 128)
	if !ok || len(want) != 256 {
		t.Errorf("EscapesIn of the most places: got %d, %v", len(want), ok)
	}
	for range 50 {
		got, ok := impl.EscapesShared(whole, 128, 8)
		wantIntegers(t, "EscapesShared again", got, ok, want)
	}
}

func TestOrbitsIn(t *testing.T) {
	rows := []struct {
		m    impl.Map
		v    impl.View
		most int64
		want []int64
	}{
		{square(0), impl.View{Wide: 8, Columns: 2, Rows: 1}, 5, []int64{1, 1}},
		{square(0), impl.View{Middle: 3, Wide: 8, Columns: 1, Rows: 1}, 5, []int64{0}},
		{square(-1), leastView, 128, []int64{128}},
		{square(-1), leastView, 0, []int64{0}},
		{impl.Map{Kind: impl.MapCube, C: complex(0.2, 0.5)}, aView, 30, []int64{0, 1, 1, 2, 30, 30, 1, 1, 1, 2, 5, 30, 30, 3, 1, 1, 3, 30, 30, 30, 4, 1, 1, 30, 30, 30, 30, 30, 1, 1, 2, 3, 30, 30, 30}},
		{impl.Map{Kind: impl.MapBurn, C: complex(-1.1, -0.3)}, aView, 30, []int64{0, 1, 2, 2, 1, 2, 2, 1, 2, 7, 30, 30, 30, 30, 1, 30, 30, 30, 30, 30, 30, 1, 30, 30, 30, 30, 30, 30, 1, 2, 2, 4, 4, 7, 3}},
		{impl.Map{Kind: impl.MapMirror, C: complex(-0.4, 0.6)}, aView, 30, []int64{0, 1, 1, 2, 2, 6, 7, 1, 1, 2, 2, 3, 4, 4, 1, 2, 7, 3, 3, 4, 5, 1, 3, 4, 4, 3, 3, 3, 1, 2, 4, 5, 3, 2, 2}},
	}
	for _, r := range rows {
		got, ok := impl.OrbitsIn(r.m, r.v, r.most)
		wantIntegers(t, "OrbitsIn", got, ok, r.want)
	}
	for _, m := range wrongMaps() {
		got, ok := impl.OrbitsIn(m, aView, 5)
		wantNoList(t, "OrbitsIn with a wrong map", got, ok)
	}
}

func TestBasinsIn(t *testing.T) {
	rows := []struct {
		n    int64
		v    impl.View
		most int64
		want []int64
	}{
		{2, impl.View{Wide: 4, Columns: 2, Rows: 1}, 20, []int64{1, 0}},
		{2, impl.View{Wide: 4, Columns: 1, Rows: 1}, 128, []int64{-1}},
		{2, impl.View{Wide: 4, Columns: 3, Rows: 1}, 128, []int64{1, -1, 0}},
		{6, impl.View{Middle: 1, Wide: 4, Columns: 1, Rows: 1}, 0, []int64{0}},
		{3, aView, 20, []int64{1, 1, 1, 1, 1, 1, 2, 1, 1, 1, 1, 1, 2, 0, 0, 2, 2, 0, 1, 0, 0, 2, 2, 2, 2, 2, 1, 0, 2, 2, 2, 2, 2, 2, 0}},
		{5, aView, 12, []int64{2, 2, 2, 3, 1, 1, 1, 2, 2, 2, 2, 0, -1, -1, -1, 1, 1, 1, -1, -1, 0, 3, 3, 3, 3, -1, -1, 0, 3, 3, 3, 3, 2, 4, -1}},
		{3, aView, 4, []int64{-1, 1, 1, 1, 1, -1, -1, -1, -1, 1, 1, -1, -1, 0, -1, -1, -1, -1, -1, -1, 0, -1, -1, -1, -1, -1, -1, 0, -1, 2, 2, 2, 2, -1, -1}},
	}
	for _, r := range rows {
		got, ok := impl.BasinsIn(r.n, r.v, r.most)
		wantIntegers(t, "BasinsIn", got, ok, r.want)
	}
	for _, n := range []int64{-1, 0, 1, 7, 1 << 40} {
		got, ok := impl.BasinsIn(n, aView, 20)
		wantNoList(t, "BasinsIn with a wrong n", got, ok)
	}
}

func TestViewsThatFail(t *testing.T) {
	fails := func(what string, v impl.View, most int64) {
		got, ok := impl.EscapesIn(v, most)
		wantNoList(t, "EscapesIn with "+what, got, ok)
		for _, workers := range []int64{1, 8} {
			got, ok = impl.EscapesShared(v, most, workers)
			wantNoList(t, "EscapesShared with "+what, got, ok)
		}
		got, ok = impl.OrbitsIn(square(0), v, most)
		wantNoList(t, "OrbitsIn with "+what, got, ok)
		got, ok = impl.BasinsIn(2, v, most)
		wantNoList(t, "BasinsIn with "+what, got, ok)
	}
	for _, v := range wrongViews() {
		fails("a wrong view", v, 5)
	}
	for _, most := range []int64{-1, 129, 1<<63 - 1, -1 << 63} {
		fails("a wrong most", aView, most)
	}
	for _, workers := range []int64{0, -1, 9, 1 << 40, -1 << 63, 1<<63 - 1} {
		got, ok := impl.EscapesShared(aView, 5, workers)
		wantNoList(t, "EscapesShared with a wrong number of workers", got, ok)
	}
	// One place of these views has a part that is not small: the last one to the right, or below.
	fails("a place that is not small", impl.View{Middle: 900, Wide: 400.001, Columns: 2, Rows: 1}, 5)
	fails("a place that is not small", impl.View{Middle: complex(0, -900), Wide: 250, Columns: 1, Rows: 3}, 5)
	bounds := []impl.View{
		{Middle: complex(900, 0), Wide: 400, Columns: 2, Rows: 1},
		{Middle: complex(0, -900), Wide: 100, Columns: 1, Rows: 3},
	}
	for _, v := range bounds {
		if got, ok := impl.OrbitsIn(square(0), v, 5); !ok || len(got) != int(v.Columns*v.Rows) {
			t.Errorf("OrbitsIn with places at the bound: got %v, %v", got, ok)
		}
		if got, ok := impl.EscapesShared(v, 5, 3); !ok || len(got) != int(v.Columns*v.Rows) {
			t.Errorf("EscapesShared with places at the bound: got %v, %v", got, ok)
		}
	}
}

func TestCountsOf(t *testing.T) {
	rows := []struct {
		list []int64
		most int64
		want []int64
	}{
		{[]int64{0, 2, 2}, 2, []int64{1, 0, 2}},
		{nil, 2, []int64{0, 0, 0}},
		{[]int64{}, 0, []int64{0}},
		{[]int64{0, 0, 0}, 0, []int64{3}},
		{[]int64{3, 1, 3, 0}, 4, []int64{1, 1, 0, 2, 0}},
		{repeated[int64](1, 256), 1, []int64{0, 256}},
	}
	for _, r := range rows {
		got, ok := impl.CountsOf(r.list, r.most)
		wantIntegers(t, "CountsOf", got, ok, r.want)
	}
	got, ok := impl.CountsOf([]int64{128, 0, 128}, 128)
	if !ok || len(got) != 129 || got[128] != 2 || got[0] != 1 {
		t.Errorf("CountsOf with the greatest most: got %v, %v", got, ok)
	}
	for _, list := range [][]int64{{3}, {0, 1, 2, -1}, {1 << 62}, {-1 << 63}, repeated[int64](1, 257)} {
		got, ok := impl.CountsOf(list, 2)
		wantNoList(t, "CountsOf a wrong list", got, ok)
	}
	for _, most := range []int64{-1, 129, -1 << 63, 1<<63 - 1} {
		got, ok := impl.CountsOf([]int64{0}, most)
		wantNoList(t, "CountsOf with a wrong most", got, ok)
		got, ok = impl.CountsOf(nil, most)
		wantNoList(t, "CountsOf of none with a wrong most", got, ok)
	}
}

func TestBordersIn(t *testing.T) {
	sized := func(columns, rows int64) impl.View { return impl.View{Wide: 1, Columns: columns, Rows: rows} }
	rows := []struct {
		v      impl.View
		counts []int64
		want   []int64
	}{
		{sized(2, 2), []int64{1, 1, 1, 2}, []int64{1, 2, 3}},
		{sized(2, 2), []int64{5, 5, 5, 5}, nil},
		{sized(1, 1), []int64{-9}, nil},
		{sized(3, 1), []int64{1, 1, 2}, []int64{1, 2}},
		{sized(1, 3), []int64{1 << 62, -1 << 63, -1 << 63}, []int64{0, 1}},
		{sized(3, 3), []int64{0, 0, 0, 0, 7, 0, 0, 0, 0}, []int64{1, 3, 4, 5, 7}},
		{sized(3, 3), []int64{4, 0, 0, 0, 0, 0, 0, 0, 0}, []int64{0, 1, 3}},
		{sized(3, 3), []int64{0, 0, 4, 0, 0, 0, 0, 0, 0}, []int64{1, 2, 5}},
		{sized(3, 3), []int64{0, 0, 0, 0, 0, 0, 4, 0, 0}, []int64{3, 6, 7}},
		{sized(3, 2), []int64{1, 1, 2, 2, 2, 2}, []int64{0, 1, 2, 3, 4}},
		// The end of a row is no neighbour of the beginning of the next one.
		{sized(2, 2), []int64{1, 2, 1, 2}, []int64{0, 1, 2, 3}},
		{sized(3, 2), []int64{5, 5, 6, 5, 5, 6}, []int64{1, 2, 4, 5}},
		{sized(3, 2), []int64{1, 1, 1, 2, 2, 2}, []int64{0, 1, 2, 3, 4, 5}},
		{aView, []int64{1, 3, 3, 4, 12, 3, 2, 3, 3, 5, 30, 30, 21, 3, 4, 13, 30, 30, 30, 30, 3, 3, 6, 10, 30, 30, 30, 3, 2, 3, 4, 6, 30, 5, 2},
			[]int64{0, 1, 2, 3, 4, 5, 6, 7, 8, 9, 10, 11, 12, 13, 14, 15, 16, 19, 20, 21, 22, 23, 24, 26, 27, 28, 29, 30, 31, 32, 33, 34}},
	}
	for _, r := range rows {
		got, ok := impl.BordersIn(r.v, r.counts)
		wantIntegers(t, "BordersIn", got, ok, r.want)
	}
	most := make([]int64, 256)
	for i := range most {
		most[i] = int64(i)
	}
	got, ok := impl.BordersIn(sized(16, 16), most)
	wantIntegers(t, "BordersIn of the most places", got, ok, most)
	for _, counts := range [][]int64{nil, {1}, {1, 2, 3}, {1, 2, 3, 4, 5}} {
		got, ok := impl.BordersIn(sized(2, 2), counts)
		wantNoList(t, "BordersIn with other counts", got, ok)
	}
	for _, v := range wrongViews() {
		for _, counts := range [][]int64{nil, {1}, {1, 2, 3, 4}, repeated[int64](1, 34)} {
			got, ok := impl.BordersIn(v, counts)
			wantNoList(t, "BordersIn of a wrong view", got, ok)
		}
	}
}
