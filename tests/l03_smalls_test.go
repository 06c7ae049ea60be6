package tests

import (
	"testing"

	"loop.example/g01318/impl"
)

// The bits in the tables of the tests of chapter 3 were computed outside of Go, from the document.

// half makes everything half as large. Its Share is enough for a list of its own.
var half = impl.Small{Turn: 0.5, Share: 1}

// bent returns three maps, one of them with a flip.
func bent() []impl.Small {
	return []impl.Small{
		{Turn: complex(0.41, -0.37), Shift: complex(0.83, 0.21), Share: 0.45},
		{Turn: complex(-0.62, 0.13), Shift: complex(-0.35, 1.7), Flip: true, Share: 0.2},
		{Turn: complex(0.05, 0.71), Shift: complex(0.4, -0.9), Share: 0.35},
	}
}

// triangle returns the maps of a triangle that has holes.
func triangle() []impl.Small {
	return []impl.Small{
		{Turn: 0.5, Share: 0.34},
		{Turn: 0.5, Shift: 0.5, Share: 0.33},
		{Turn: 0.5, Shift: complex(0.25, 0.5), Share: 0.33},
	}
}

// withShares returns maps that differ in their Shares only.
func withShares(shares ...float32) []impl.Small {
	list := make([]impl.Small, len(shares))
	for i, share := range shares {
		list[i] = impl.Small{Turn: 0.5, Share: share}
	}
	return list
}

// validSmalls are small maps up to the bounds of all their numbers.
func validSmalls() []impl.Small {
	list := []impl.Small{
		{}, half, {Turn: complex(minusZero, minusZero), Shift: complex(minusZero, minusZero), Share: minusZero},
		{Turn: complex(beforeOne, 0)}, {Turn: complex(0, -beforeOne)}, {Turn: complex(-beforeOne, leastNumber)},
		{Turn: complex(beforeOne, number(0x397fffff))}, {Turn: complex(leastNumber, -leastNumber)},
		{Shift: complex(mostSmall, -mostSmall)}, {Shift: complex(-mostSmall, mostSmall), Flip: true},
		{Share: 1}, {Share: beforeOne}, {Share: leastNumber},
	}
	return append(list, bent()...)
}

func wrongSmalls() []impl.Small {
	list := []impl.Small{
		{Turn: 1}, {Turn: -1}, {Turn: 1i}, {Turn: -1i}, {Turn: complex(0.8, 0.6)}, {Turn: complex(0.75, 0.75), Share: 1},
		{Turn: complex(afterOne, 0), Flip: true},
		// Its length is less than 1, but nearer to 1 than to any other 32-bit number.
		{Turn: complex(beforeOne, number(0x39800000))},
	}
	for _, x := range largeOnes() {
		list = append(list, impl.Small{Turn: x}, impl.Small{Shift: x, Share: 1})
	}
	for _, share := range []float32{-leastNumber, -0.5, afterOne, 2, inf, minusInf, nan, otherNaN} {
		list = append(list, impl.Small{Turn: 0.5, Share: share})
	}
	return list
}

// wrongLists are lists that are no small maps.
func wrongLists() [][]impl.Small {
	list := [][]impl.Small{
		nil, {}, {{}}, {{Turn: 0.5}}, repeated(impl.Small{Share: 1.0 / 9}, 9), append(repeated(impl.Small{}, 8), half),
		withShares(1, 1), withShares(0.5, 0.25), withShares(0.5, 0.498), withShares(0.5, 0.502),
	}
	for _, s := range wrongSmalls() {
		with := impl.Small{Turn: 0.5, Share: 1 - s.Share}
		list = append(list, []impl.Small{with, s}, []impl.Small{s, with})
	}
	return list
}

func TestLimitsOfChapter3(t *testing.T) {
	if impl.MaxSmalls != 8 || impl.MaxWord != 24 {
		t.Error("a limit of chapter 3 is not as told")
	}
}

func TestValidSmall(t *testing.T) {
	for _, s := range validSmalls() {
		if !impl.ValidSmall(s) {
			t.Errorf("ValidSmall does not take %v", s)
		}
	}
	for _, s := range wrongSmalls() {
		if impl.ValidSmall(s) {
			t.Errorf("ValidSmall takes %v", s)
		}
	}
}

func TestAreSmalls(t *testing.T) {
	const tiny = 0x1p-26
	lists := [][]impl.Small{
		bent(), triangle(), {half}, {{Share: 1}}, repeated(impl.Small{Turn: 0.9, Share: 0.125}, 8),
		withShares(0, 0, 1, minusZero), withShares(0.5, 0.499), withShares(0.5, 0.501),
		// The sums nearest to what they may differ by.
		withShares(number(0x3f7fbe77)), withShares(1, number(0x3a831000)),
		withShares(tiny, tiny, tiny, tiny, tiny, tiny, tiny, number(0x3f7fbe76)),
	}
	for _, list := range lists {
		if !impl.AreSmalls(list) {
			t.Errorf("AreSmalls does not take %v", list)
		}
	}
	others := [][]impl.Small{
		withShares(number(0x3f7fbe76)), withShares(1, number(0x3a831400)),
		// From left to right, each tiny Share is lost.
		withShares(number(0x3f7fbe76), tiny, tiny, tiny, tiny, tiny, tiny, tiny),
	}
	for _, list := range append(others, wrongLists()...) {
		if impl.AreSmalls(list) {
			t.Errorf("AreSmalls takes %v", list)
		}
	}
}

func TestSameSmalls(t *testing.T) {
	one := func(s impl.Small) []impl.Small { return []impl.Small{s} }
	rows := []struct {
		what string
		a, b []impl.Small
		want bool
	}{
		{"one list", bent(), bent(), true},
		{"no maps", nil, []impl.Small{}, true},
		{"a map and none", one(impl.Small{}), nil, false},
		{"a shorter list", bent(), bent()[:2], false},
		{"another order", bent(), []impl.Small{bent()[0], bent()[2], bent()[1]}, false},
		{"Turns", one(impl.Small{Turn: 0.5}), one(impl.Small{Turn: 0.25}), false},
		{"imaginary Turns", one(impl.Small{Turn: 0.5i}), one(impl.Small{Turn: -0.5i}), false},
		{"Shifts", one(impl.Small{Shift: 1}), one(impl.Small{Shift: complex(afterOne, 0)}), false},
		{"imaginary Shifts", one(impl.Small{Shift: 1i}), one(impl.Small{Shift: 2i}), false},
		{"Flips", one(impl.Small{Flip: true}), one(impl.Small{}), false},
		{"equal Flips", one(impl.Small{Flip: true}), one(impl.Small{Flip: true}), true},
		{"Shares", one(impl.Small{Share: 1}), one(impl.Small{Share: beforeOne}), false},
		{"zeros with signs as Turns", one(impl.Small{Turn: complex(minusZero, 0)}), one(impl.Small{}), false},
		{"imaginary zeros with signs as Turns", one(impl.Small{Turn: complex(0, minusZero)}), one(impl.Small{}), false},
		{"zeros with signs as Shifts", one(impl.Small{Shift: complex(minusZero, 0)}), one(impl.Small{}), false},
		{"imaginary zeros with signs as Shifts", one(impl.Small{Shift: complex(0, minusZero)}), one(impl.Small{}), false},
		{"zeros with signs as Shares", one(impl.Small{Share: minusZero}), one(impl.Small{}), false},
		{
			"not-a-numbers", one(impl.Small{Turn: complex(nan, otherNaN), Shift: complex(nan, otherNaN), Share: nan}),
			one(impl.Small{Turn: complex(otherNaN, nan), Shift: complex(otherNaN, nan), Share: otherNaN}), true,
		},
		{"infinities", one(impl.Small{Turn: complex(inf, 0)}), one(impl.Small{Turn: complex(minusInf, 0)}), false},
		{"maps that are not valid", repeated(impl.Small{Turn: 5, Shift: 1e9, Share: -1}, 20), repeated(impl.Small{Turn: 5, Shift: 1e9, Share: -1}, 20), true},
		{"the last of too many", repeated(half, 20), append(repeated(half, 19), impl.Small{}), false},
	}
	for _, r := range rows {
		wantBool(t, "SameSmalls: "+r.what, impl.SameSmalls(r.a, r.b), r.want)
		wantBool(t, "SameSmalls: "+r.what+", the other way", impl.SameSmalls(r.b, r.a), r.want)
	}
}

// leadRows have maps with what they lead z to, and back to.
func leadRows() []struct {
	s           impl.Small
	z, to, back complex64
} {
	maps := bent()
	return []struct {
		s           impl.Small
		z, to, back complex64
	}{
		{impl.Small{Turn: 0.5, Shift: 1}, 4, 3, 6},
		{impl.Small{Turn: 0.5, Shift: 1}, 3, 2.5, 4},
		{impl.Small{Turn: 0.5i, Flip: true}, 2i, 1, complex(4, minusZero)},
		{impl.Small{Turn: 0.5i}, 2i, -1, 4},
		{impl.Small{Turn: 0.5, Flip: true}, complex(1, 2), complex(0.5, -1), complex(2, -4)},
		{impl.Small{Turn: complex(0.25, 0.5), Shift: complex(-1, 2)}, complex(4, 8), complex(-4, 6), complex(13.6, -3.2)},
		{impl.Small{Turn: -0.5, Shift: complex(mostSmall, -mostSmall)}, complex(-mostSmall, mostSmall), complex(1500, -1500), complex(4000, -4000)},
		{maps[0], at(0x3e7bb3e23ef79702), at(0x3f8e0ab53ea27784), at(0xbf8f0016beae8ffd)},
		{maps[0], at(0x441398c7445d39a3), at(0x440e935343109374), at(0xc38c5b1b44ee0e9c)},
		{maps[1], at(0x3ef5a7f93f583afb), at(0xbf09a4b940124ec0), at(0xbfc790d3bf86be75)},
		{maps[1], at(0xc46b7f55c2898267), at(0x440fafb5c32362f5), at(0x44b2ffabc3cef23c)},
		{maps[2], at(0x3f62ffa73e988cc9), at(0x3e6e60fbbe82d59e), at(0x3fdd0d21bf105b69)},
		{maps[2], at(0x44487343c44165a3), at(0x44136f3544046cc0), at(0xc47af4e5c495eda0)},
	}
}

func TestMapSmall(t *testing.T) {
	for _, r := range leadRows() {
		got, ok := impl.MapSmall(r.s, r.z)
		wantComplexSum(t, "MapSmall", got, ok, r.to)
	}
	// Turns of nothing leave the Shift, but for the signs of zeros.
	zeros := complex(minusZero, minusZero)
	rows := []struct {
		s        impl.Small
		z, wants complex64
	}{
		{impl.Small{}, 5, 0},
		{impl.Small{Shift: complex(-3, leastNumber)}, complex(mostSmall, -mostSmall), complex(-3, leastNumber)},
		{impl.Small{Shift: zeros}, complex(1, 1), 0},
		{impl.Small{Shift: zeros}, complex(-1, 1), complex(minusZero, 0)},
		{impl.Small{Shift: zeros}, complex(-1, -1), complex(0, minusZero)},
		{impl.Small{Shift: zeros, Flip: true}, complex(-1, 1), complex(0, minusZero)},
		{impl.Small{Turn: complex(leastNumber, 0), Shift: zeros}, complex(0.5, -0.75), complex(0, -leastNumber)},
	}
	for _, r := range rows {
		got, ok := impl.MapSmall(r.s, r.z)
		wantComplexSum(t, "MapSmall with nothing", got, ok, r.wants)
	}
	wantSmallFailures(t, "MapSmall", impl.MapSmall)
}

// wantSmallFailures checks a function of a small map and a number with all that are not valid.
func wantSmallFailures(t *testing.T, what string, call func(s impl.Small, z complex64) (complex64, bool)) {
	t.Helper()
	for _, s := range wrongSmalls() {
		got, ok := call(s, 0.5)
		wantNone(t, what+" of a wrong map", got, ok)
	}
	for _, z := range largeOnes() {
		got, ok := call(half, z)
		wantNone(t, what+" of a large number", got, ok)
	}
}

func TestBackSmall(t *testing.T) {
	for _, r := range leadRows() {
		got, ok := impl.BackSmall(r.s, r.z)
		wantComplexSum(t, "BackSmall", got, ok, r.back)
	}
	rows := []struct {
		s       impl.Small
		z, want complex64
	}{
		{impl.Small{Turn: 0.5, Shift: 2}, 2, 0},
		{impl.Small{Turn: 0.5, Shift: 2, Flip: true}, 2, complex(0, minusZero)},
		{impl.Small{Turn: complex(leastNumber, 0), Shift: 2}, 2, 0},
		{impl.Small{Turn: 0x1p-110}, 1000, complex(1000*0x1p110, 0)}, // what is returned may be large
	}
	for _, r := range rows {
		got, ok := impl.BackSmall(r.s, r.z)
		wantComplexSum(t, "BackSmall", got, ok, r.want)
	}
	wantSmallFailures(t, "BackSmall", impl.BackSmall)
	for _, turn := range []complex64{0, complex(minusZero, 0), complex(0, minusZero), complex(minusZero, minusZero)} {
		for _, z := range smallOnes() {
			got, ok := impl.BackSmall(impl.Small{Turn: turn, Shift: 1, Share: 1}, z)
			wantNone(t, "BackSmall with a turn of nothing", got, ok)
		}
	}
	// Quotients that are not finite, in one part or the other.
	for _, z := range []complex64{1000, 1i, complex(-1, 1)} {
		got, ok := impl.BackSmall(impl.Small{Turn: 0x1p-130}, z)
		wantNone(t, "BackSmall to what is not finite", got, ok)
	}
}

// TestBackLeadsForward holds that a map leads to z what BackSmall tells, nearly.
func TestBackLeadsForward(t *testing.T) {
	for _, z := range spreadOver(10, 100) {
		for _, s := range bent() {
			back, _ := impl.BackSmall(s, z)
			if again, ok := impl.MapSmall(s, back); !ok || impl.LongOf(again-z) > 1e-5 {
				t.Errorf("%v leads %v to %v and not to %v", s, back, again, z)
			}
		}
	}
}

func wantSmall(t *testing.T, what string, got impl.Small, ok bool, want impl.Small) {
	t.Helper()
	if !ok || !impl.SameSmalls([]impl.Small{got}, []impl.Small{want}) {
		t.Errorf("%s: got %v, %v, want %v", what, got, ok, want)
	}
}

func TestJoinSmalls(t *testing.T) {
	rows := []struct {
		a, b, want impl.Small
	}{
		{impl.Small{Turn: 0.5, Shift: 1, Share: 0.5}, impl.Small{Turn: 0.5i, Flip: true, Share: 0.5}, impl.Small{Turn: 0.25i, Shift: 1, Flip: true, Share: 0.25}},
		{impl.Small{Turn: 0.5i, Flip: true, Share: 0.5}, impl.Small{Turn: 0.5, Shift: 1, Share: 0.25}, impl.Small{Turn: complex(0, 0.25), Shift: 0.5i, Flip: true, Share: 0.125}},
		{impl.Small{Turn: 0.5, Flip: true, Share: 1}, impl.Small{Turn: 0.5i, Shift: 2i, Flip: true}, impl.Small{Turn: -0.25i, Shift: -1i}},
		{impl.Small{Turn: 0.5, Shift: 500}, impl.Small{Shift: 1000}, impl.Small{Shift: 1000}},
		{impl.Small{}, impl.Small{}, impl.Small{}},
		{impl.Small{Share: leastNumber}, impl.Small{Share: 0.5}, impl.Small{}},
	}
	for _, r := range rows {
		got, ok := impl.JoinSmalls(r.a, r.b)
		wantSmall(t, "JoinSmalls", got, ok, r.want)
	}
	joined := []impl.Small{
		{Turn: at(0x3cff9721be9b573f), Shift: at(0x3f9fbe76bc343960), Share: number(0x3e4f5c28)},
		{Turn: at(0xbe530be13e90be0e), Shift: at(0x3fa8624e3f84ac08), Flip: true, Share: number(0x3db851eb)},
		{Turn: at(0x3e90ff973e8b923a), Shift: at(0x3f29374cbe9d2f1c), Share: number(0x3e2147ae)},
		{Turn: at(0xbe9ac711be34538f), Shift: at(0xbf56594b3ff813aa), Flip: true, Share: number(0x3db851eb)},
		{Turn: at(0x3ecd773200000000), Shift: at(0x3db43958402d5811), Share: number(0x3d23d70b)},
		{Turn: at(0x3d7b15b43ee4b5dc), Shift: at(0xbf370a3e3f98d4fe), Flip: true, Share: number(0x3d8f5c29)},
		{Turn: at(0x3e90ff973e8b923a), Shift: at(0x3e95b574be99b3d0), Share: number(0x3e2147ae)},
		{Turn: at(0xbdfc84b5bede0ded), Shift: at(0xbf53126ebf8820c4), Flip: true, Share: number(0x3d8f5c29)},
		{Turn: at(0xbf0068db3d916873), Shift: at(0x3f878d50bf29374c), Share: number(0x3dfae147)},
	}
	for i, want := range joined {
		got, ok := impl.JoinSmalls(bent()[i/3], bent()[i%3])
		wantSmall(t, "JoinSmalls of bent maps", got, ok, want)
	}
}

func TestJoinSmallsFails(t *testing.T) {
	for _, s := range wrongSmalls() {
		got, ok := impl.JoinSmalls(s, half)
		wantNone(t, "JoinSmalls of a wrong map", got, ok)
		got, ok = impl.JoinSmalls(half, s)
		wantNone(t, "JoinSmalls with a wrong map", got, ok)
	}
	rows := []struct{ a, b impl.Small }{
		{impl.Small{Turn: 0.5, Shift: complex(number(0x43fa0002), 0)}, impl.Small{Shift: 1000}},
		{impl.Small{Turn: 0.9, Shift: -200i}, impl.Small{Shift: -1000i}},
		// Both Turns are less than 1, but not their product, as it is rounded.
		{impl.Small{Turn: at(0xbe35f426bf7bed1a)}, impl.Small{Turn: at(0x3f6d00fdbec18c2e)}},
	}
	for _, r := range rows {
		got, ok := impl.JoinSmalls(r.a, r.b)
		wantNone(t, "JoinSmalls to what is not valid", got, ok)
	}
}

func TestRestOfSmall(t *testing.T) {
	rows := []struct {
		s    impl.Small
		want complex64
	}{
		{impl.Small{Turn: 0.5, Shift: 1}, 2},
		{impl.Small{Turn: 0.5i, Shift: 1}, complex(0.8, 0.4)},
		{impl.Small{}, 0},
		{impl.Small{Shift: complex(3, -4)}, complex(3, -4)},
		{impl.Small{Shift: complex(3, -4), Flip: true}, complex(3, -4)},
		{impl.Small{Turn: complex(beforeOne, 0), Shift: complex(1, -1000)}, complex(0x1p24, -1000*0x1p24)},
		{impl.Small{Turn: 0.5, Shift: 3, Flip: true}, 6},
		{impl.Small{Turn: 0.5i, Shift: 3, Flip: true}, complex(4, 2)},
		{impl.Small{Turn: 0.5i, Shift: 3i, Flip: true}, complex(2, 4)},
		{bent()[0], at(0x3f95bf2ebec16614)},
		{bent()[1], at(0x3e1683464090c45b)},
		{bent()[2], at(0x3f397507becfd7d0)},
	}
	for _, r := range rows {
		got, ok := impl.RestOfSmall(r.s)
		wantComplexSum(t, "RestOfSmall", got, ok, r.want)
	}
	for _, s := range wrongSmalls() {
		got, ok := impl.RestOfSmall(s)
		wantNone(t, "RestOfSmall of a wrong map", got, ok)
	}
}

// TestRestsAreNotMoved holds that maps do not move what RestOfSmall tells, nearly.
func TestRestsAreNotMoved(t *testing.T) {
	for i, z := range spreadOver(0.7, 100) {
		s := impl.Small{Turn: z, Shift: spreadOver(5, 100)[99-i], Flip: i%2 == 1}
		rest, ok := impl.RestOfSmall(s)
		if !ok {
			continue
		}
		if again, _ := impl.MapSmall(s, rest); impl.LongOf(again-rest) > 1e-3 {
			t.Errorf("%v moves %v to %v", s, rest, again)
		}
	}
}
