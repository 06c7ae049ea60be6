package tests

import (
	"math"
	"testing"

	"loop.example/g01318/impl"
)

// The bits in the tables of the tests of chapter 6 were computed outside of Go, from the document.

func TestLimitsOfChapter6(t *testing.T) {
	if impl.MaxList != 256 || impl.MaxDeep != 8 {
		t.Error("a limit of chapter 6 is not as told")
	}
}

// wrongNumbers are lists that are too long, or have numbers that are not finite.
func wrongNumbers() [][]float32 {
	list := [][]float32{make([]float32, 257), repeated(float32(1), 257), repeated(float32(2), 5000)}
	for _, x := range endlessNumbers() {
		list = append(list, []float32{x}, []float32{x, 1, 2}, []float32{1, x, 2}, []float32{1, 2, 4, x})
	}
	return list
}

// wrongSizes are numbers that are not finite and greater than 0.
func wrongSizes() []float32 {
	return append(endlessNumbers(), 0, minusZero, -leastNumber, -1, -mostNumber)
}

// wrongRadii are numbers that are not finite and at least 0.
func wrongRadii() []float32 {
	return append(endlessNumbers(), -leastNumber, -1, -mostNumber)
}

// eventful is the list of the greatest length, told by a short rule.
func eventful() []float32 {
	list := make([]float32, 256)
	for i := range list {
		list[i] = float32(i*37%101-50) / 7
	}
	return list
}

// otherwise is another one.
func otherwise() []float32 {
	list := make([]float32, 256)
	for i := range list {
		list[i] = float32(i*53%97-40) / 3
	}
	return list
}

// cloudOf returns the points with these parts.
func cloudOf(x, y []float32) []complex64 {
	points := make([]complex64, len(x))
	for i := range points {
		points[i] = complex(x[i], y[i])
	}
	return points
}

// digestOf makes one number of many integers.
func digestOf(list []int64) uint32 {
	var d uint32
	for _, n := range list {
		d = d*31 + uint32(n)
	}
	return d
}

func TestIsList(t *testing.T) {
	for _, list := range [][]float32{nil, {}, {0}, {minusZero, leastNumber, -mostNumber, mostNumber}, make([]float32, 256), eventful()} {
		wantBool(t, "IsList", impl.IsList(list), true)
	}
	for _, list := range wrongNumbers() {
		wantBool(t, "IsList", impl.IsList(list), false)
	}
}

// massRow is a list of points with the points that each box of a size has.
type massRow struct {
	points []complex64
	size   float32
	want   []int64
}

func massRows() []massRow {
	return []massRow{
		{[]complex64{0, 0.5, 3}, 1, []int64{2, 1}},
		{[]complex64{7}, 0.25, []int64{1}},
		// The first points of boxes tell their order.
		{[]complex64{3, 0, 3.5, 0.5, 3}, 1, []int64{3, 2}},
		{[]complex64{-1, 5, 5, -1, 5, 0}, 2, []int64{2, 3, 1}},
		{[]complex64{1, 1i, 1 + 1i, 0, 1i}, 1, []int64{1, 2, 1, 1}},
		{[]complex64{1 + 2i, 2 + 1i, -1 + 2i, 1 - 2i}, 1, []int64{1, 1, 1, 1}},
		// A box has its lower bounds, and not its upper ones, below 0 as well.
		{[]complex64{0, complex(beforeOne, 0), 1, complex(0, beforeOne), 1i}, 1, []int64{3, 1, 1}},
		{[]complex64{-0.5, 0.5, -1, complex(-afterOne, 0), -2}, 1, []int64{2, 1, 2}},
		{[]complex64{-0.5i, 0.5i, -1i, complex(0, -afterOne), -2i}, 1, []int64{2, 1, 2}},
		{[]complex64{0, complex(minusZero, minusZero)}, 1, []int64{2}},
		{[]complex64{0, complex(-leastNumber, 0), complex(0, -leastNumber)}, 1, []int64{1, 1, 1}},
		// Quotients are rounded before boxes are told: to -0, and up to 5.
		{[]complex64{0, complex(-leastNumber, -leastNumber)}, 2, []int64{2}},
		{[]complex64{0.5, complex(0.55, 0.05)}, number(0x3dcccccd), []int64{2}},
		{[]complex64{1.5i, complex(0.1, 1.6)}, number(0x3e99999a), []int64{2}},
		// Sizes that fill all boxes, and those that leave none apart.
		{[]complex64{0, 0.25, 0.5, 0.75, 1, 1.25, 1.5, 1.75}, 0.5, []int64{2, 2, 2, 2}},
		{[]complex64{0, 0.25, 0.5, 0.75, 1, 1.25, 1.5, 1.75}, 2, []int64{8}},
		{[]complex64{0, 0.25, 0.5, 0.75, 1, 1.25, 1.5, 2}, 2, []int64{7, 1}},
		{[]complex64{1, complex(mostNumber, 0)}, mostNumber, []int64{1, 1}},
		{[]complex64{0, complex(leastNumber, 0)}, leastNumber, []int64{1, 1}},
		{repeated(complex64(-3+2i), 256), 0.5, []int64{256}},
		{[]complex64{1000000, complex(0, 1000000), -1000000, complex(0, -1000000)}, 1, []int64{1, 1, 1, 1}},
		// These quotients are at most 1000000 only because they are rounded.
		{[]complex64{700000, -700000}, number(0x3f333333), []int64{1, 1}},
		{line("bd077a0e3eae2831 3fede1e7bf89c46a bf897f3a3f945a25 bda9fa50bf580bd9 bf1126e5bf82b6c5"), number(0x40133333), []int64{2, 1, 2}},
		{line("bfff4ace3f4a70c0 401736163f910243 3f4f0587bf7986fa becc3aefc008a3b5 3fafa93fbf9c4f91 bf9fec0640389bf7 bf753d604037d476 3f352ee13fc89189 3f449506bff6c518"), number(0x3ff33333), []int64{1, 1, 2, 1, 2, 1, 1}},
		{line("3fa3809abfb943eb bf0dc25cc00de6ab c0298fffbf4b6a27 c03a9726bf304feb 4006743a403f6b3d beecc121c0169142 bf6c4a4cc027835d bfd8f7683f3a61c2 3f3376b0c033f40e bd98bbb2beedf6ec bf1ce09fc00c2a49 bf23cb5ac018bb4f 3f8ef5063f658a9d 3f45c682bf0e16be"), number(0x402ccccd), []int64{2, 7, 1, 1, 1, 1, 1}},
	}
}

func TestBoxes(t *testing.T) {
	for _, r := range massRows() {
		masses, ok := impl.BoxMasses(r.points, r.size)
		wantIntegers(t, "BoxMasses", masses, ok, r.want)
		count, ok := impl.BoxesOf(r.points, r.size)
		wantInteger(t, "BoxesOf", count, ok, int64(len(r.want)))
		counts, ok := impl.BoxesOfSizes(r.points, []float32{r.size, r.size})
		wantNumbers(t, "BoxesOfSizes", counts, ok, repeated(float32(len(r.want)), 2))
	}
	cloud := cloudOf(eventful(), otherwise())
	rows := []struct {
		size  float32
		count int64
		want  uint32
	}{{10, 8, 0xd6f9df1e}, {3, 56, 0x06fe5898}, {1, 141, 0xdc10c196}, {0.3, 256, 0x29e21000}, {0.1, 256, 0x29e21000}}
	for _, r := range rows {
		masses, ok := impl.BoxMasses(cloud, r.size)
		if !ok || digestOf(masses) != r.want {
			t.Errorf("BoxMasses of a cloud: got %v, %v", masses, ok)
		}
		count, ok := impl.BoxesOf(cloud, r.size)
		wantInteger(t, "BoxesOf a cloud", count, ok, r.count)
	}
	counts, ok := impl.BoxesOfSizes(cloud, []float32{0.3, 10, 1, 3, 1})
	wantNumbers(t, "BoxesOfSizes of a cloud", counts, ok, []float32{256, 8, 141, 56, 141})
}

// TestBoxesOfLittle holds what there is without points, or without sizes.
func TestBoxesOfLittle(t *testing.T) {
	count, ok := impl.BoxesOf(nil, 1)
	wantInteger(t, "BoxesOf no points", count, ok, 0)
	counts, ok := impl.BoxesOfSizes(nil, []float32{1, 2})
	wantNumbers(t, "BoxesOfSizes of no points", counts, ok, []float32{0, 0})
	counts, ok = impl.BoxesOfSizes([]complex64{1, 2}, nil)
	wantNumbers(t, "BoxesOfSizes of no sizes", counts, ok, nil)
	counts, ok = impl.BoxesOfSizes([]complex64{1, 2}, repeated(float32(1), 256))
	wantNumbers(t, "BoxesOfSizes of the most sizes", counts, ok, repeated(float32(2), 256))
	masses, ok := impl.BoxMasses(nil, 1)
	wantNoList(t, "BoxMasses of no points", masses, ok)
}

func TestBoxesFail(t *testing.T) {
	fails := func(what string, points []complex64, size float32) {
		t.Helper()
		count, ok := impl.BoxesOf(points, size)
		wantNone(t, "BoxesOf "+what, count, ok)
		masses, ok := impl.BoxMasses(points, size)
		wantNoList(t, "BoxMasses "+what, masses, ok)
		counts, ok := impl.BoxesOfSizes(points, []float32{1000, size})
		wantNoList(t, "BoxesOfSizes "+what, counts, ok)
	}
	for _, points := range wrongLines() {
		fails("no points", points, 1)
		counts, ok := impl.BoxesOfSizes(points, nil)
		wantNoList(t, "BoxesOfSizes of no points and no sizes", counts, ok)
	}
	for _, size := range wrongSizes() {
		fails("a wrong size", []complex64{1, 2}, size)
		fails("no points and a wrong size", nil, size)
	}
	for _, sizes := range wrongNumbers() {
		counts, ok := impl.BoxesOfSizes([]complex64{1, 2}, sizes)
		wantNoList(t, "BoxesOfSizes of wrong sizes", counts, ok)
	}
	tooFar := number(0x49742401) // the number behind 1000000
	for _, z := range []complex64{complex(tooFar, 0), complex(0, tooFar), complex(-tooFar, 0), complex(0, -tooFar), complex(mostNumber, 0)} {
		fails("a quotient too great", []complex64{z}, 1)
		fails("a quotient too great", []complex64{0, 1, z}, 1)
	}
	fails("a quotient that is not finite", []complex64{1}, leastNumber)
	fails("a quotient that is not finite", []complex64{0, -1i}, leastNumber)
}

// rulerRow is a walk with a ruler along points.
type rulerRow struct {
	points           []complex64
	ruler            float32
	steps            int64
	left, walkedLong float32
}

func rulerRows() []rulerRow {
	return []rulerRow{
		{[]complex64{0, 1, 2}, 1, 2, 0, 2},
		{[]complex64{0, 1, 2, 2.5}, 1, 2, 0.5, 2.5},
		{[]complex64{5 + 3i}, 1, 0, 0, 0},
		{[]complex64{1, 1, 1}, leastNumber, 0, 0, 0},
		// Points nearer than the ruler are passed over, and a step is one even if it is long.
		{[]complex64{0, complex(beforeOne, 0), 0.5, 1, 1.5}, 1, 1, 0.5, 1.5},
		{[]complex64{0, 0.25, 10, 10.25, 9.5}, 1, 1, 0.5, 1.5},
		{[]complex64{0, 0.5, 0.75, 1.25, 1.5, 2.5}, 0.625, 3, 0, 1.875},
		{[]complex64{0, 3 + 4i, 0, 3 + 4i}, 5, 3, 0, 15},
		{[]complex64{0, 3 + 4i, 0, 3 + 4i}, number(0x40a00001), 0, 5, 5},
		{[]complex64{2, 1, 0, 1, 2}, 2, 2, 0, 4},
		{[]complex64{0, complex(leastNumber, 0), complex(0, 2*leastNumber)}, leastNumber, 2, 0, 2 * leastNumber},
		// What is not finite is far enough for any ruler.
		{[]complex64{complex(-mostNumber, 0), complex(mostNumber, 0), 0}, mostNumber, 2, 0, inf},
		{[]complex64{complex(-mostNumber, 0), complex(mostNumber, 0)}, mostNumber, 1, 0, mostNumber},
		// The product with the steps is rounded before what is left is added.
		{[]complex64{0, 1, 2, 3, complex(3, number(0x3f1e873a))}, number(0x3f7658a6), 3, number(0x3f1e873a), number(0x4060644a)},
		{line("bfe23d333ff61fcb be847f86bfa60a99 3f0db91a3fcdce48 c01ddc3dbe802433 c005897b3fce1bc1"), number(0x40133333), 3, number(0x3ff30fc5), number(0x410cc85f)},
		{line("c02e93073fff6889 3eb7b6b43dc6aefc 3e64223bbfaa0efe be92f21dbffd544a bf5c3b693f133a78 3f2ade1fbf86ffc4 3f3244313fdab70a"), number(0x40833333), 1, number(0x4044bc42), number(0x40e59154)},
		{line("40346280bf851dc7 4028dd284038713c 3e9425033feb2874 c022e7584026789f beb32231bf795977 4021d939bf17c7bb c01de1d3c0357c0e 3fe58e26bff59500 3f50c3e8c01ea3a6"), number(0x40533333), 3, number(0x3ff39c9f), number(0x413cd9fa)},
		{line("3f80bf7cbfdae6cd 4001d0d4bfccc685 c0154e22c01e110f 400073a03ec1bc09 becd2d90c01c100e 3f94a8aebfe37d43 401333fe3f9656b8 3f1d4307bf5db421 3ff6583c3e56c3fb bf8d2e903f46beb1 3f98dbc8400b23e3 3f78e7183f950f0e"), number(0x3f8ccccd), 9, number(0x3f844ea0), number(0x412ef03b)},
		{cloudOf(eventful(), otherwise()), 5, 255, 0, number(0x449f6000)},
		{cloudOf(eventful(), otherwise()), 20, 47, number(0x413c0f96), number(0x446df03e)},
		{cloudOf(eventful(), otherwise()), 30, 5, number(0x419aaefd), number(0x432955e0)},
	}
}

func TestRulers(t *testing.T) {
	for _, r := range rulerRows() {
		steps, left, ok := impl.RulerCount(r.points, r.ruler)
		wantInteger(t, "RulerCount", steps, ok, r.steps)
		wantNumber(t, "what RulerCount leaves", left, r.left)
		walked, ok := impl.RulerLong(r.points, r.ruler)
		if r.walkedLong == inf {
			wantNone(t, "RulerLong that is not finite", walked, ok)
			continue
		}
		wantSum(t, "RulerLong", walked, ok, r.walkedLong)
	}
}

func TestRulersFail(t *testing.T) {
	fails := func(what string, points []complex64, ruler float32) {
		t.Helper()
		steps, left, ok := impl.RulerCount(points, ruler)
		wantNone(t, "RulerCount "+what, steps, ok)
		wantNone(t, "what RulerCount leaves "+what, left, ok)
		walked, ok := impl.RulerLong(points, ruler)
		wantNone(t, "RulerLong "+what, walked, ok)
	}
	for _, points := range append(wrongLines(), nil, []complex64{}) {
		fails("along no points", points, 1)
	}
	for _, ruler := range wrongSizes() {
		fails("with a wrong ruler", []complex64{0, 1, 2}, ruler)
		fails("with a wrong ruler", []complex64{0}, ruler)
	}
}

func TestMassIn(t *testing.T) {
	far := complex(mostNumber, 0)
	rows := []struct {
		points []complex64
		at     complex64
		radius float32
		want   int64
	}{
		{[]complex64{0, 0.5, 3}, 0, 0.5, 2},
		{[]complex64{0, 0.5, 3}, 0, number(0x3effffff), 1},
		{[]complex64{0, 0.5, 3}, 1, 2, 3},
		{[]complex64{0, 0.5, 3}, 1, 1, 2},
		{[]complex64{1, 1, 2}, 1, 0, 2},
		{[]complex64{1, 1, 2}, 1, minusZero, 2},
		{[]complex64{0, complex(minusZero, minusZero)}, complex(minusZero, 0), 0, 2},
		{[]complex64{3 + 4i, 4 + 3i, 4 + 4i, 3 - 4i, -5}, 0, 5, 4},
		{nil, 1, 5, 0},
		{repeated(complex64(1i), 256), 0, 1, 256},
		// What is not finite is farther than any radius.
		{[]complex64{far, 0, -far}, far, mostNumber, 2},
		{[]complex64{0, complex(leastNumber, 0)}, 0, leastNumber, 2},
		{line("bfef49c44008ac91 3ea7eef4bfbf542e 401688eec002e9d5 3ed785f040302a26"), line("402ffdadbe83bff8")[0], number(0x40133333), 1},
		{line("402265e0401ecd43 bf255e3bc00f56d5 c01c9fe1401deefa c03d8ab1bd8ac73c bf213b43c0057cb1 bfa57a7bc02bbdfc bfab91903f4ca237 bfd6730abeb3e3fd"), line("c0050ac73fac4920")[0], number(0x40466666), 4},
		{line("3e827dae3fdd26bb bf8a86b9c0112dc5 402d5568c01382c3 3eb028ba3fb518df 3f08ec55c0394b9d 40366960401370d8 c0041fdebe19883d 3fd3fb24c016ad7d bfa9a4c5401bbd57 bd941e143fe8d4a1 3f33d0453f9272e1 bfb951373f9b30c0"), line("c03e4d1bbfad9fe0")[0], number(0x400ccccd), 2},
		{cloudOf(eventful(), otherwise()), 1 - 2i, 5, 45},
		{cloudOf(eventful(), otherwise()), 1 - 2i, 20, 248},
		{cloudOf(eventful(), otherwise()), 1 - 2i, 0, 0},
	}
	for _, r := range rows {
		got, ok := impl.MassIn(r.points, r.at, r.radius)
		wantInteger(t, "MassIn", got, ok, r.want)
	}
}

func TestPairShare(t *testing.T) {
	far := complex(mostNumber, 0)
	// The distance of the first two of these points is just the first radius.
	near := line("402cc2ce40051fb7 c01ce6053f6cd6da 40392061400518fe")
	rows := []struct {
		points []complex64
		radius float32
		want   float32
	}{
		{[]complex64{0, 0.5, 3}, 0.5, number(0x3eaaaaab)},
		{[]complex64{0, 0.5, 3}, number(0x3effffff), 0},
		{[]complex64{0, 0.5, 3}, 2.5, number(0x3f2aaaab)},
		{[]complex64{0, 0.5, 3}, 3, 1},
		{[]complex64{0, 3 + 4i}, 5, 1},
		{[]complex64{0, 3 + 4i}, 4, 0},
		{[]complex64{1, 1, 1, 2}, 0, 0.5},
		{[]complex64{1, 2, 1, 2}, minusZero, number(0x3eaaaaab)},
		{[]complex64{far, -far, 0}, mostNumber, number(0x3f2aaaab)},
		{repeated(complex64(2i), 256), 0, 1},
		{near, number(0x40a8ec0d), number(0x3f2aaaab)},
		{near, number(0x40a8ec0c), number(0x3eaaaaab)},
		{line("bfef49c44008ac91 3ea7eef4bfbf542e 401688eec002e9d5 3ed785f040302a26"), number(0x40133333), number(0x3e2aaaab)},
		{line("402265e0401ecd43 bf255e3bc00f56d5 c01c9fe1401deefa c03d8ab1bd8ac73c bf213b43c0057cb1 bfa57a7bc02bbdfc bfab91903f4ca237 bfd6730abeb3e3fd"), number(0x40466666), 0.5},
		{line("3e827dae3fdd26bb bf8a86b9c0112dc5 402d5568c01382c3 3eb028ba3fb518df 3f08ec55c0394b9d 40366960401370d8 c0041fdebe19883d 3fd3fb24c016ad7d bfa9a4c5401bbd57 bd941e143fe8d4a1 3f33d0453f9272e1 bfb951373f9b30c0"), number(0x400ccccd), number(0x3e8ba2e9)},
		{cloudOf(eventful(), otherwise()), 5, number(0x3dfd2d2d)},
		{cloudOf(eventful(), otherwise()), 20, number(0x3f542626)},
		{cloudOf(eventful(), otherwise()), 0, 0},
	}
	for _, r := range rows {
		got, ok := impl.PairShare(r.points, r.radius)
		wantSum(t, "PairShare", got, ok, r.want)
	}
}

func TestDiscsFail(t *testing.T) {
	for _, points := range wrongLines() {
		mass, ok := impl.MassIn(points, 0, 1)
		wantNone(t, "MassIn of no points", mass, ok)
		share, ok := impl.PairShare(points, 1)
		wantNone(t, "PairShare of no points", share, ok)
	}
	for _, radius := range wrongRadii() {
		mass, ok := impl.MassIn([]complex64{0, 1}, 0, radius)
		wantNone(t, "MassIn a wrong radius", mass, ok)
		mass, ok = impl.MassIn(nil, 0, radius)
		wantNone(t, "MassIn a wrong radius", mass, ok)
		share, ok := impl.PairShare([]complex64{0, 1}, radius)
		wantNone(t, "PairShare of a wrong radius", share, ok)
	}
	for _, at := range endlessParts() {
		mass, ok := impl.MassIn([]complex64{0, 1}, at, 1)
		wantNone(t, "MassIn at no number", mass, ok)
		mass, ok = impl.MassIn(nil, at, 1)
		wantNone(t, "MassIn at no number", mass, ok)
	}
	for _, points := range [][]complex64{nil, {}, {1}} {
		share, ok := impl.PairShare(points, 1)
		wantNone(t, "PairShare of too few points", share, ok)
	}
}

// linesToMeasure are coasts, dragons and clouds.
func linesToMeasure() [][]complex64 {
	var list [][]complex64
	for seed := int64(1); seed < 1<<31; seed = 29*seed + 3 {
		coast, _, ok := impl.CoastBetween(complex(-3, float32(seed%7)), complex(4.5, -1.25), 7, 0.4, seed)
		if !ok {
			panic("a coast fails")
		}
		list = append(list, coast)
	}
	word, _ := impl.Rewrite(impl.DragonGrammar(), 7)
	dragon, ok := impl.TurtleLine(word, 0.25, 0.75)
	if !ok {
		panic("a dragon fails")
	}
	return append(list, dragon, cloudOf(eventful(), otherwise()), spreadOver(50, 200), zigzag(64))
}

// TestSmallerBoxesAreNoFewer holds promise 7 for boxes that lie in one another.
func TestSmallerBoxesAreNoFewer(t *testing.T) {
	for _, points := range linesToMeasure() {
		for _, by := range []float32{0.5, 0.25} {
			sizes, _ := impl.SizesOf(64, by, 7)
			counts, ok := impl.BoxesOfSizes(points, sizes)
			if !ok || len(counts) != 7 {
				t.Fatal("BoxesOfSizes fails")
			}
			for i, count := range counts {
				if count < 1 || count > float32(len(points)) || i > 0 && count < counts[i-1] {
					t.Errorf("boxes of the sizes %v are %v of %d points", sizes, counts, len(points))
				}
				masses, ok := impl.BoxMasses(points, sizes[i])
				var sum int64
				for _, mass := range masses {
					sum += mass
				}
				wantInteger(t, "the sum of BoxMasses", sum, ok, int64(len(points)))
				wantNumber(t, "the number of BoxMasses", float32(len(masses)), count)
			}
		}
	}
}

// TestRulersWalkNoFarther holds promise 7 for rulers.
func TestRulersWalkNoFarther(t *testing.T) {
	for _, points := range linesToMeasure() {
		long, ok := impl.LongOfLine(points)
		if !ok {
			t.Fatal("LongOfLine fails")
		}
		for _, ruler := range []float32{1e-3, 0.05, 0.1, 0.25, 0.3, 0.75, 1, 3, 10, 1000} {
			walked, one := impl.RulerLong(points, ruler)
			steps, left, two := impl.RulerCount(points, ruler)
			if !one || !two || float64(walked) > float64(long)*(1+1e-5) {
				t.Errorf("a line %v long is %v long by a ruler of %v", long, walked, ruler)
			}
			if left >= ruler || steps < 0 || math.Abs(float64(walked)-float64(steps)*float64(ruler)-float64(left)) > 1e-6*float64(walked) {
				t.Errorf("%d steps of %v, and %v, are %v", steps, ruler, left, walked)
			}
		}
	}
}
