package tests

import (
	"math"
	"testing"

	"loop.example/g01318/impl"
)

// wantChanged checks a sheet and the number that comes with it.
func wantChanged(t *testing.T, what string, got impl.Sheet, n int64, ok bool, want impl.Sheet, wantNumber int64) {
	t.Helper()
	wantSheet(t, what, got, ok, want)
	wantInteger(t, "the number of "+what, n, ok, wantNumber)
}

func TestTalusStep(t *testing.T) {
	rows := []struct {
		s            impl.Sheet
		steep, share float32
		want         impl.Sheet
		moved        float32
	}{
		{heights(2, 4, 0), 2, 0.125, heights(2, 3.75, 0.25), 0.25},
		{heights(2, 0, 4), 2, 0.125, heights(2, 0.25, 3.75), 0.25},
		{heights(1, 4, 0), 2, 0.125, heights(1, 3.75, 0.25), 0.25},
		{heights(1, 0, 4), 2, 0.125, heights(1, 0.25, 3.75), 0.25},
		{heights(1, 4), 0, 0.125, heights(1, 4), 0},
		{flat(17, 17, 4), 0, 0.125, flat(17, 17, 4), 0},
		// A difference that is just as steep does not slide.
		{heights(2, 4, 0), 4, 0.125, heights(2, 4, 0), 0},
		{heights(2, 4, 0), 4.5, 0.125, heights(2, 4, 0), 0},
		{heights(2, 4, 0), minusZero, minusZero, heights(2, 4, 0), 0},
		// Where there is no difference, no zero is added that would take away a sign.
		{heights(2, 0, minusZero), 0, 0.125, heights(2, 0, minusZero), 0},
		{heights(2, 4, 0), mostNumber, 0.125, heights(2, 4, 0), 0},
		// Heights are taken as they are at first, and not as they have become.
		{heights(3, 4, 2, 0), 0, 0.125, heights(3, 3.75, 2, 0.25), 0.5},
		{heights(3, 0, 2, 4), 1, 0.125, heights(3, 0.125, 2, 3.875), 0.25},
		// All sides take, and none but sides: rows do not go on behind their ends.
		{heights(3, 0, 0, 0, 0, 8, 0, 0, 0, 0), 0, 0.125, heights(3, 0, 1, 0, 1, 4, 1, 0, 1, 0), 4},
		{heights(3, 8, 0, 0, 0, 0, 0, 0, 0, 8), 0, 0.125, heights(3, 6, 1, 0, 1, 0, 1, 0, 1, 6), 4},
		{heights(3, 0, 0, 8, 0, 0, 0, 8, 0, 0), 0, 0.125, heights(3, 0, 1, 6, 1, 0, 1, 6, 1, 0), 4},
		{heights(3, 0, 8, 8, 8, 0, 8, 8, 8, 0), 4, 0.125, heights(3, 1, 7, 8, 7, 2, 7, 8, 7, 1), 4},
		{sheet("bff2b429 bfdfb59f / 403ccff0 bf6c6dde / 3ef87c86 bd8b239c"), number(0x3f33e5d4), number(0x3bc535c1), sheet("bfef8301 bfdf9dab / 403950ec bf677ec2 / 3efdea92 bd8d0606"), number(0x3d668416)},
		{sheet("3f12160d bfbca23b bdf49e8f / 3f5ae0f9 bf067827 c01157a3"), number(0x3e491d55), number(0x3ddfad33), sheet("3ec1c11f bf88199a beeb3afa / 3f3751cd bf25b696 bff1b186"), number(0x3f6e9bf0)},
		{sheet("3fe1d660 c0353513 / 3f40603e be38b454 / 3ecb0f63 3f2e00c4"), number(0x3f45181d), number(0x3dc8b215), sheet("3faecce8 c0116a43 / 3f4268b8 beae1580 / 3ecb0f63 3f2bbda3"), number(0x3f1b96f7)},
		{sheet("bf531cbd bfae4509 bee299a2 / bedffd84 bf225536 400d5bd7"), number(0x3ea698e0), number(0x3be653d6), sheet("bf5361ad bfad2f0b bedc5d8c / bee03672 bf1e86b5 400b2e0f"), number(0x3d2ff937)},
	}
	for _, r := range rows {
		got, moved, ok := impl.TalusStep(r.s, r.steep, r.share)
		wantSheet(t, "TalusStep", got, ok, r.want)
		wantSum(t, "what slides", moved, ok, r.moved)
	}
	got, moved, ok := impl.TalusStep(hills(), 0.25, 0.125)
	wantSum(t, "what slides from hills", moved, ok, number(0x41961d6f))
	if digest(got.Heights) != 0x3fd85704 {
		t.Errorf("TalusStep of hills is %v", got)
	}
}

func TestTalusStepFails(t *testing.T) {
	fails := func(what string, s impl.Sheet, steep, share float32) {
		t.Helper()
		got, moved, ok := impl.TalusStep(s, steep, share)
		wantNoSheet(t, "TalusStep "+what, got, ok)
		wantNone(t, "TalusStep "+what, moved, ok)
	}
	for _, s := range wrongSheets() {
		fails("of a wrong sheet", s, 1, 0.125)
	}
	for _, x := range append(endlessNumbers(), -leastNumber, -1, -mostNumber) {
		fails("with a wrong steep", heights(1, 1), x, 0.125)
		fails("with a wrong share", heights(1, 1), 1, x)
	}
	for _, x := range []float32{number(0x3e000001), 0.5, 1, mostNumber} {
		fails("with a wrong share", heights(1, 1), 1, x)
	}
	fails("with a difference that is not finite", heights(2, mostNumber, -mostNumber), 0, 0.125)
	// All heights stay finite here, but 24 slides of an eighth of the greatest number have no finite sum.
	steps := make([]float32, 16)
	for i := range steps {
		steps[i] = mostNumber * float32((i+i/4)%2)
	}
	fails("with a sum that is not finite", heights(4, steps...), 0, 0.125)
	_, moved, ok := impl.TalusStep(heights(2, steps[:2]...), 0, 0.125)
	wantSum(t, "an eighth of the greatest number", moved, ok, mostNumber/8)
}

func TestDropOn(t *testing.T) {
	rows := []struct {
		what        string
		s           impl.Sheet
		x, y, steps int64
		take, leave float32
		want        impl.Sheet
		made        int64
	}{
		{"the example", heights(3, 2, 2, 0), 1, 0, 9, 0.5, 0, heights(3, 2, 1, 1), 1},
		{"in a hollow", heights(3, 5, 1, 5, 1, 0, 1, 5, 1, 5), 1, 1, 128, 0.5, 0.5, heights(3, 5, 1, 5, 1, 0, 1, 5, 1, 5), 0},
		{"on a flat sheet", flat(3, 3, 2), 1, 1, 128, 0.5, 0.5, flat(3, 3, 2), 0},
		{"on a single place", heights(1, 7), 0, 0, 128, 0.5, 0.5, heights(1, 7), 0},
		{"without steps", heights(2, 4, 0), 0, 0, 0, 0.5, 0, heights(2, 4, 0), 0},
		{"that takes nothing", heights(3, 4, 2, 0), 0, 0, 9, 0, 0.5, heights(3, 4, 2, 0), 2},
		{"that leaves all", heights(3, 4, 2, 0), 0, 0, 9, 0.5, 1, heights(3, 4, 2, 0), 2},
		{"that leaves a half", heights(3, 4, 2, 0), 0, 0, 9, 0.5, 0.5, heights(3, 3.5, 1.75, 0.75), 2},
		{"that leaves nothing", heights(3, 4, 2, 0), 0, 0, 9, 0.5, 0, heights(3, 3, 1, 2), 2},
		{"that ends on its way", heights(3, 4, 2, 0), 0, 0, 1, 0.5, 0, heights(3, 3, 3, 0), 1},
		{"into a hollow", heights(5, 9, 4, 0, 4, -9), 0, 0, 9, 0.5, 0, heights(5, 6.5, 2, 4.5, 4, -9), 2},
		{"into a hollow beside another one", heights(4, 1, 3, 1, 0), 1, 0, 9, 0.25, 0, heights(4, 1.5, 2.5, 1, 0), 1},
		// The first one of several lowest sides, in the order above, left, right and below.
		{"above", heights(3, 9, 0, 9, 0, 4, 0, 9, 0, 9), 1, 1, 1, 0.5, 0, heights(3, 9, 2, 9, 0, 2, 0, 9, 0, 9), 1},
		{"left", heights(3, 9, 1, 9, 0, 4, 0, 9, 0, 9), 1, 1, 1, 0.5, 0, heights(3, 9, 1, 9, 2, 2, 0, 9, 0, 9), 1},
		{"right", heights(3, 9, 1, 9, 1, 4, 0, 9, 0, 9), 1, 1, 1, 0.5, 0, heights(3, 9, 1, 9, 1, 2, 2, 9, 0, 9), 1},
		{"below", heights(3, 9, 1, 9, 1, 4, 1, 9, 0, 9), 1, 1, 1, 0.5, 0, heights(3, 9, 1, 9, 1, 2, 1, 9, 2, 9), 1},
		{"not across corners", heights(3, 0, 9, 0, 9, 4, 9, 0, 9, 0), 1, 1, 9, 0.5, 0, heights(3, 0, 9, 0, 9, 4, 9, 0, 9, 0), 0},
		// Rows do not go on behind their ends.
		{"at the end of a row", heights(3, 9, 9, 4, 0, 9, 9), 2, 0, 9, 0.5, 0, heights(3, 9, 9, 4, 0, 9, 9), 0},
		{"at the beginning of a row", heights(3, 9, 9, 0, 4, 9, 9), 0, 1, 9, 0.5, 0, heights(3, 9, 9, 0, 4, 9, 9), 0},
		{"zeros are equal", heights(2, 0, minusZero), 0, 0, 9, 0.5, 0, heights(2, 0, minusZero), 0},
		{"as low as can be", heights(2, leastNumber, -leastNumber), 0, 0, 9, 0.5, 0, heights(2, 0, 0), 1},
		{"from a corner", sheet("3e71cf4c 3f84da04 / 3ba16bbe bfb2a478 / 3f92b2cd bf1da850 / 3e9d0089 bf8b826b"), 0, 0, 9, number(0x3eae4145), number(0x3d2505cd), sheet("3e2479a3 3f84da04 / bee624c0 bf5d9e4e / 3f92b2cd bf1da850 / 3e9d0089 bf8b826b"), 2},
		{"of three steps", sheet("bef03c1a 3fb46401 3fa88a72 / 3d038b41 c020c224 bf5dab7d / 3f8a9c21 c03aa885 bf0bd53e"), 2, 0, 9, number(0x3e0557ad), number(0x3e0b1622), sheet("bef03c1a 3fb46401 3f891a42 / 3d038b41 c02037bd bf8245db / 3f8a9c21 c021c2c6 bf0bd53e"), 3},
		{"that leaves nearly all", sheet("bec90bb3 c0365ef6 3fc38f06 3fad8d47 / 3f6e0622 3ff58fd6 bfb0f751 4002bc11"), 2, 0, 9, number(0x3edbe80a), number(0x3f7fa1d4), sheet("bec90bb3 c03632b2 3fc3367f 3fad8d47 / 3f6e0622 3ff58fd6 bfb0f751 4002bc11"), 1},
		{"that goes up", sheet("c0245fa5 401f3d40 / 400c8e67 403c3747 / c01c73fd 401fa036 / 3fd6990d bfbcbe22"), 0, 3, 9, number(0x3d005d47), number(0x3f0c32df), sheet("c0245fa5 401f3d40 / 400c8e67 403c3747 / c018b6cf 401fa036 / 3fcf1eb1 bfbcbe22"), 1},
	}
	for _, r := range rows {
		got, made, ok := impl.DropOn(r.s, r.x, r.y, r.steps, r.take, r.leave)
		wantChanged(t, "a drop "+r.what, got, made, ok, r.want, r.made)
	}
}

// snake is a sheet on which a way of 161 places goes to and fro, and down.
func snake() impl.Sheet {
	s := flat(17, 17, 1000)
	next := float32(500)
	for y := range 17 {
		for i := range 17 {
			x := i
			if y%4 == 2 {
				x = 16 - i
			}
			// Rows with an odd y have one place, below the last one.
			if y%2 == 1 && (x != 16 || y%4 != 1) && (x != 0 || y%4 != 3) {
				continue
			}
			s.Heights[17*y+x] = next
			next--
		}
	}
	return s
}

func TestDropOnGoesFar(t *testing.T) {
	rows := []struct {
		steps int64
		want  uint32
	}{{0, 0x16d20000}, {1, 0xac3e4800}, {16, 0x00a38302}, {127, 0x7c4ef5b1}, {128, 0x040cb5b1}}
	for _, r := range rows {
		got, made, ok := impl.DropOn(snake(), 0, 0, r.steps, 0.25, 0.125)
		wantInteger(t, "the steps of a drop", made, ok, r.steps)
		if digest(got.Heights) != r.want {
			t.Errorf("a drop of %d steps makes %v", r.steps, got)
		}
	}
}

func TestDropsFail(t *testing.T) {
	fails := func(what string, s impl.Sheet, x, y, steps int64, take, leave float32) {
		t.Helper()
		got, made, ok := impl.DropOn(s, x, y, steps, take, leave)
		wantNoSheet(t, "DropOn "+what, got, ok)
		wantNone(t, "DropOn "+what, made, ok)
	}
	allFail := func(what string, s impl.Sheet, steps int64, take, leave float32) {
		t.Helper()
		fails(what, s, 0, 0, steps, take, leave)
		for _, count := range []int64{0, 1, 128} {
			got, seed, ok := impl.DropsOn(s, count, steps, take, leave, 5)
			wantNoSheet(t, "DropsOn "+what, got, ok)
			wantNone(t, "DropsOn "+what, seed, ok)
		}
	}
	for _, s := range wrongSheets() {
		allFail("a wrong sheet", s, 5, 0.5, 0.5)
	}
	for _, x := range []int64{-1, 3, 6, math.MaxInt64, math.MinInt64} {
		fails("a place that is none", flat(3, 2, 1), x, 0, 5, 0.5, 0.5)
	}
	for _, y := range []int64{-1, 2, 6, math.MaxInt64, math.MinInt64} {
		fails("a place that is none", flat(3, 2, 1), 0, y, 5, 0.5, 0.5)
	}
	for _, steps := range []int64{-1, 129, math.MaxInt64, math.MinInt64} {
		allFail("with wrong steps", flat(3, 2, 1), steps, 0.5, 0.5)
	}
	for _, x := range append(endlessNumbers(), -leastNumber, -1, -mostNumber, afterOne, 2, mostNumber) {
		allFail("with a wrong take", flat(3, 2, 1), 5, x, 0.5)
		allFail("with a wrong leave", flat(3, 2, 1), 5, 0.5, x)
	}
	allFail("with too great a take", flat(3, 2, 1), 5, number(0x3f000001), 0.5)
	steep := heights(2, mostNumber, -mostNumber)
	fails("with a difference that is not finite", steep, 0, 0, 5, 0.5, 0)
	fails("with a difference that is not finite", steep, 0, 0, 1, 0.25, 1)
	// Where it does not go, it does not fail.
	got, made, ok := impl.DropOn(steep, 1, 0, 5, 0.5, 0)
	wantChanged(t, "a drop in the deepest hollow", got, made, ok, steep, 0)
}

func TestDropsOn(t *testing.T) {
	rows := []struct {
		s            string
		count, steps int64
		take, leave  float32
		seed         int64
		want         string
		last         int64
	}{
		{"40800000 00000000", 0, 9, 0.5, 0, 77, "40800000 00000000", 77},
		{"40800000 00000000", 0, 0, 0, 0, 2147483647, "40800000 00000000", 2147483647},
		{"3fac42a8 3f0a2a09 / 3fab79bf 4023f55e / c01a3237 c02dc944 / 3fe02713 400782ee", 5, 5, number(0x3ea8931d), number(0x3ee9a679), 2054044316, "3fac42a8 3f0a2a09 / 3ea8360b 3fe2330c / bfa411c3 bfa56e7e / 3f80d44a 400782ee", 745348306},
		{"3f7672c3 400829c1 bfcee88b / 3faa413f c01b0f6d bf84db21 / be9e47b5 3e0f4b7e 403d7c48", 5, 2, number(0x3ea14535), number(0x3ddc35dd), 986223274, "3f7672c3 3f592f92 bfcee88b / 3faa413f bf4866b8 bf84db21 / be9e47b5 be6232a8 403d7c48", 2091081808},
		{"c02addd7 bf40f8dd bf0d0d5f / 3fb5a495 c02856e3 bfe22056 / bfc739c4 bfe5f835 be277472", 2, 9, number(0x3efe6e6d), number(0x3ea824ee), 75101896, "bfa70fe8 bf40f8dd bf0d0d5f / 3d5f19d0 c016886b bfe22056 / bfc739c4 c004ca93 be277472", 1553708916},
		{"3fbca8fb bf22de00 / 403b051d bfc0ce75 / 4035cf30 bf9015f0 / 40375d69 40260194", 3, 5, number(0x3e4cf1e7), number(0x3db6eb54), 1479874659, "3fbca8fb bf4b7752 / 40115d17 bf2c59b2 / 40078a71 beda4566 / 40375d69 40260194", 656505301},
	}
	for _, r := range rows {
		got, seed, ok := impl.DropsOn(sheet(r.s), r.count, r.steps, r.take, r.leave, r.seed)
		wantChanged(t, "DropsOn "+r.s, got, seed, ok, sheet(r.want), r.last)
	}
	got, seed, ok := impl.DropsOn(hills(), 128, 128, 0.5, 0.125, 77)
	wantInteger(t, "the seed of the most drops", seed, ok, 1680049997)
	if digest(got.Heights) != 0x5d8b88f7 {
		t.Errorf("the most drops make %v", got)
	}
}

// TestDropsFollowOneAnother holds that many drops are single ones at places that are drawn.
func TestDropsFollowOneAnother(t *testing.T) {
	for _, s := range []impl.Sheet{heights(1, 3), heights(5, 1, 4, 2, 0, 3), heights(2, 6, 1, 2, 4, 0, 3), hills()} {
		want, seed := s, int64(31)
		for count := range int64(129) {
			got, last, ok := impl.DropsOn(s, count, 20, 0.3, 0.2, 31)
			wantChanged(t, "many drops", got, last, ok, want, seed)
			seed = (1103515245*seed + 12345) % (1 << 31)
			x := seed >> 16 % s.Wide
			seed = (1103515245*seed + 12345) % (1 << 31)
			y := seed >> 16 % s.High
			want, _, _ = impl.DropOn(want, x, y, 20, 0.3, 0.2)
		}
	}
}

func TestDropsOnFails(t *testing.T) {
	fails := func(what string, s impl.Sheet, count, seed int64) {
		t.Helper()
		got, last, ok := impl.DropsOn(s, count, 9, 0.5, 0, seed)
		wantNoSheet(t, "DropsOn "+what, got, ok)
		wantNone(t, "DropsOn "+what, last, ok)
	}
	for _, count := range []int64{-1, 129, math.MaxInt64, math.MinInt64} {
		fails("with a wrong count", flat(2, 2, 1), count, 5)
	}
	for _, seed := range wrongSeeds() {
		for _, count := range []int64{0, 1} {
			fails("with a wrong seed", flat(2, 2, 1), count, seed)
		}
	}
	// One of many drops falls on the greatest height.
	fails("with a difference that is not finite", heights(2, mostNumber, -mostNumber), 128, 5)
}

func TestMassOfSheet(t *testing.T) {
	rows := []struct {
		s    impl.Sheet
		want float32
	}{
		{flat(2, 2, 3), 12},
		{heights(1, minusZero), 0},
		{flat(17, 17, minusZero), 0},
		{flat(17, 17, 1), 289},
		{heights(3, 16777216, 1, 1), 16777216},
		{heights(3, 1, 1, 16777216), 16777218},
		{heights(1, 16777216, 1, 1), 16777216},
		{heights(2, mostNumber, -mostNumber, leastNumber, 0), leastNumber},
		{heights(1, mostNumber), mostNumber},
		{sheet("bf9deab5 c0097841 bfa195c5 / c01ac62d 3df61bd9 bf280384"), number(0xc0f32758)},
		{sheet("3ff93c35 c00cc7df bf6065d4 / bf9c7448 bef66d1f 400d2ec0"), number(0xbf207108)},
		{hills(), number(0x4290f746)},
	}
	for _, r := range rows {
		got, ok := impl.MassOfSheet(r.s)
		wantSum(t, "MassOfSheet", got, ok, r.want)
	}
	for _, s := range append(wrongSheets(), heights(2, mostNumber, mostNumber), heights(3, mostNumber, mostNumber, -mostNumber)) {
		got, ok := impl.MassOfSheet(s)
		wantNone(t, "MassOfSheet of such a sheet", got, ok)
	}
}

// wantMassKept holds promise 6: a change takes nothing away, nearly.
func wantMassKept(t *testing.T, what string, before, after impl.Sheet, ok bool) {
	t.Helper()
	size := 1.0
	for _, height := range before.Heights {
		size += math.Abs(float64(height))
	}
	was, one := impl.MassOfSheet(before)
	is, two := impl.MassOfSheet(after)
	if !ok || !one || !two || math.Abs(float64(was)-float64(is)) > 1e-5*size {
		t.Errorf("%s: the mass %v becomes %v", what, was, is)
	}
}

func TestChangesKeepMass(t *testing.T) {
	for seed := int64(1); seed < 1<<31; seed = 7*seed + 5 {
		for power := int64(1); power <= 4; power++ {
			s, _, _ := impl.DiamondSheet(power, []float32{1, -2, 0.5, 3}, 1.5, 0.6, seed)
			for _, share := range []float32{0, 0.03125, 0.1, 0.125} {
				slid, moved, ok := impl.TalusStep(s, 0.1, share)
				wantMassKept(t, "TalusStep", s, slid, ok)
				wantBool(t, "something slides", moved > 0, share > 0)
			}
			for _, leave := range []float32{0, 0.3, 1} {
				n := s.Wide
				dropped, _, ok := impl.DropOn(s, seed%n, seed/n%n, 128, 0.5, leave)
				wantMassKept(t, "DropOn", s, dropped, ok)
				worn, _, ok := impl.DropsOn(s, 128, 50, 0.4, leave, seed)
				wantMassKept(t, "DropsOn", s, worn, ok)
				// A drop that leaves all it carries may change nothing.
				wantBool(t, "something is worn", leave == 1 || !impl.SameSheet(s, worn), true)
			}
		}
	}
}

// TestSlidesMakeFlatter holds that heights which slide stay within those that there were.
func TestSlidesMakeFlatter(t *testing.T) {
	s := hills()
	low, high, _ := impl.RangeOfSheet(s)
	for range 50 {
		slid, _, ok := impl.TalusStep(s, 0, 0.125)
		least, greatest, inRange := impl.RangeOfSheet(slid)
		if !ok || !inRange || least < low || greatest > high {
			t.Fatalf("heights from %v to %v slide to those from %v to %v", low, high, least, greatest)
		}
		s, low, high = slid, least, greatest
	}
	if high-low > 4 {
		t.Errorf("the hills are still from %v to %v", low, high)
	}
}
