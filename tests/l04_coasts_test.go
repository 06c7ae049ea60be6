package tests

import (
	"slices"
	"testing"

	"loop.example/g01318/impl"
)

func wrongSeeds() []int64 { return []int64{-1, 1 << 31, 1 << 40, -1 << 63} }

// wantCoast checks a coast and the seed behind it.
func wantCoast(t *testing.T, what string, got []complex64, seed int64, ok bool, want []complex64, wantSeed int64) {
	t.Helper()
	wantList(t, what, got, ok, want)
	wantInteger(t, "the seed of "+what, seed, ok, wantSeed)
}

func TestBreakCoast(t *testing.T) {
	rows := []struct {
		points string
		rough  float32
		seed   int64
		want   string
		last   int64
	}{
		{"", 1, 77, "", 77},
		{"4000000040400000", 1, 2147483647, "4000000040400000", 2147483647},
		{zeros + zeros + " 4000000000000000", 0, 0, zeros + zeros + " " + ones + zeros + " 4000000000000000", 12345},
		// These seeds draw 16384, 0 and 32767: nothing, all to the right, and nearly all to the left.
		{zeros + zeros + " 4000000000000000", 1, 1133319750, zeros + zeros + " " + ones + zeros + " 4000000000000000", 1073741831},
		{zeros + zeros + " 4000000000000000", 0.5, 2088216195, zeros + zeros + " " + ones + "bf800000 4000000000000000", 0},
		{zeros + zeros + " 0000000040000000", 0.5, 2088216195, zeros + zeros + " " + ones + ones + " 0000000040000000", 0},
		{zeros + zeros + " 4000000000000000", -0.5, 2088216195, zeros + zeros + " " + ones + ones + " 4000000000000000", 0},
		{zeros + zeros + " 4000000000000000", 1, 286434947, zeros + zeros + " " + ones + "3ffffc00 4000000000000000", 2147418112},
		{ones + zeros + " " + ones + zeros, 3, 5, ones + zeros + " " + ones + zeros + " " + ones + zeros, 1222621274},
		{end + zeros + " " + minuses + end, 0, 0, end + zeros + " 7effffff7effffff " + minuses + end, 12345},
		{"402159143f4a9100 3f895e8d3f9130ed", number(0xbf08d583), 1274991248, "402159143f4a9100 3ff5cf9c3fbdd59e 3f895e8d3f9130ed", 1795667849},
		{"4027d78640377e9f 3f3a70b1bfa24439 c032df37bfe21b59", number(0xbf6a5ffa), 356085483, "4027d78640377e9f bfff0354401eb77f 3f3a70b1bfa24439 bf9db18dbde89f90 c032df37bfe21b59", 1541010145},
		{"c02318a33ebfab21 40096109402357c5 c00372c3beda2271 4029b05b4014cdc7", number(0x3f7a953b), 533168605, "c02318a33ebfab21 bf9fc53c406e2466 40096109402357c5 c01e5d464093c8fe c00372c3beda2271 4020e58ec035b6ee 4029b05b4014cdc7", 190465312},
		{"3f030d684031c9cc bf99ee703fd1bc12 3fce108dc0014305", number(0x3fabf80a), 1031173696, "3f030d684031c9cc 3f8235df3e21a430 bf99ee703fd1bc12 c00aecf9c00105e4 3fce108dc0014305", 555030206},
		// Halves of the least numbers are rounded before they bend.
		{"0000000380000004 8000000600000009 000000088000000f", number(0x3fc00000), 77, "0000000380000004 8000000500000000 8000000600000009 0000001200000007 000000088000000f", 1589938195},
		{"0000000200000004 000000070000000e 0000000e00000007 0000000700000004 0000000c00000004 0000000b00000009 0000000e00000007 000000070000000f", number(0xc0400000), 5, "0000000200000004 0000000800000007 000000070000000e 0000001400000014 0000000e00000007 0000000d80000001 0000000700000004 0000000a8000000a 0000000c00000004 0000000600000005 0000000b00000009 0000000800000003 0000000e00000007 0000000d0000000d 000000070000000f", 1186464276},
	}
	for _, r := range rows {
		got, seed, ok := impl.BreakCoast(line(r.points), r.rough, r.seed)
		wantCoast(t, "BreakCoast "+r.points, got, seed, ok, line(r.want), r.last)
	}
}

// TestBreakCoastKeepsPoints holds promise 5, with lists of all lengths.
func TestBreakCoastKeepsPoints(t *testing.T) {
	for _, count := range []int{0, 1, 2, 3, 50, 127, 128} {
		points := spreadOver(3, count)
		got, _, ok := impl.BreakCoast(points, 0.7, int64(count))
		if !ok || len(got) != max(2*count-1, 0) {
			t.Fatalf("BreakCoast of %d points has %d, %v", count, len(got), ok)
		}
		for i, z := range points {
			wantComplex(t, "a point that is kept", got[2*i], z)
		}
	}
}

func TestBreakCoastFails(t *testing.T) {
	fails := func(what string, points []complex64, rough float32, seed int64) {
		t.Helper()
		got, last, ok := impl.BreakCoast(points, rough, seed)
		wantNoList(t, "BreakCoast "+what, got, ok)
		wantNone(t, "BreakCoast "+what, last, ok)
	}
	for _, points := range wrongLines() {
		fails("of no points", points, 0.5, 1)
	}
	for _, points := range [][]complex64{nil, {1}, {0, 2}} {
		for _, seed := range wrongSeeds() {
			fails("with a wrong seed", points, 0.5, seed)
		}
		for _, rough := range endlessNumbers() {
			fails("with a wrong rough", points, rough, 1)
		}
	}
	fails("to too many points", repeated(complex64(1), 129), 0.5, 1)
	fails("to too many points", repeated(complex64(1), 256), 0.5, 1)
	fails("to the end of numbers", []complex64{0, complex(mostNumber, 0)}, 1000, 1)
	fails("with a sum that is not finite", []complex64{complex(mostNumber, 0), complex(mostNumber, 0)}, 0, 1)
	fails("with a difference that is not finite", []complex64{complex(0, mostNumber), complex(0, -mostNumber)}, 0.5, 1)
}

func TestCoastBetween(t *testing.T) {
	rows := []struct {
		from, to complex64
		times    int64
		rough    float32
		seed     int64
		want     string
		last     int64
	}{
		{0, 1, 0, 0, 0, zeros + zeros + " " + ones + zeros, 0},
		{complex(mostNumber, minusZero), complex(-mostNumber, 1), 0, -mostNumber, 2147483647, end + minuses + " " + lowEnd + ones, 2147483647},
		{0, 1, 2, 0, 0, zeros + zeros + " 3e80000000000000 3f00000000000000 3f40000000000000 " + ones + zeros, 654583775},
		{1, 1, 1, 5, 0, ones + zeros + " " + ones + zeros + " " + ones + zeros, 12345},
		{at(0xbf3b8307be823986), at(0x3fe7f7a5bfaa06aa), 1, number(0x3e45ef3c), 1797076422, "bf3b8307be823986 3f23ebc2bf0daa71 3fe7f7a5bfaa06aa", 1593207175},
		{at(0xbfd330904016e694), at(0x3fd314f3bf6e3074), 2, number(0x3eba32ad), 911777610, "bfd330904016e694 bf6c4dfd3faba684 bf11ffce3e115ab8 3f549ff23e556458 3fd314f3bf6e3074", 1875451697},
		{at(0xbed8ea2ac03353b8), at(0xbfae5835402a2007), 3, number(0x3edfc9f9), 9762213, "bed8ea2ac03353b8 be1a3084bfde14f2 3f6de512bfc25b02 3fe58d1abf3f23c5 3fa7deee3e9d2983 3f01d2543f9fb7c4 bf23e7a03f48876a bf995df53fd28c68 bfae5835402a2007", 1331932724},
	}
	for _, r := range rows {
		got, seed, ok := impl.CoastBetween(r.from, r.to, r.times, r.rough, r.seed)
		wantCoast(t, "CoastBetween", got, seed, ok, line(r.want), r.last)
	}
}

// TestCoastsKeepTheirPoints holds promise 5: each coast has the points of the one that is broken less often.
func TestCoastsKeepTheirPoints(t *testing.T) {
	for seed := int64(1); seed < 1<<31; seed = seed*5 + 3 {
		coast, last := []complex64{-1 + 2i, 3 - 1i}, seed
		for times := range int64(8) {
			got, end, ok := impl.CoastBetween(-1+2i, 3-1i, times, 0.4, seed)
			wantCoast(t, "a coast and its breaks", got, end, ok, coast, last)
			if times == 7 {
				break // it has too many points to be broken once more
			}
			next, nextSeed, ok := impl.BreakCoast(coast, 0.4, last)
			if !ok {
				t.Fatalf("a coast of %d points is not broken", len(coast))
			}
			for i, z := range coast {
				wantComplex(t, "a point that is kept", next[2*i], z)
			}
			coast, last = next, nextSeed
		}
	}
}

func TestCoastBetweenFails(t *testing.T) {
	fails := func(what string, from, to complex64, times int64, rough float32, seed int64) {
		t.Helper()
		got, last, ok := impl.CoastBetween(from, to, times, rough, seed)
		wantNoList(t, "CoastBetween "+what, got, ok)
		wantNone(t, "CoastBetween "+what, last, ok)
	}
	for _, times := range []int64{0, 1, 7} {
		for _, z := range endlessParts() {
			fails("from no number", z, 1, times, 0.5, 1)
			fails("to no number", 0, z, times, 0.5, 1)
		}
		for _, rough := range endlessNumbers() {
			fails("with a wrong rough", 0, 1, times, rough, 1)
		}
		for _, seed := range wrongSeeds() {
			fails("with a wrong seed", 0, 1, times, 0.5, seed)
		}
	}
	for _, times := range []int64{-1, 8, 1 << 40, -1 << 63} {
		fails("with wrong times", 0, 1, times, 0.5, 1)
	}
	fails("to the end of numbers", 0, complex(mostNumber, 0), 1, 1000, 1)
	fails("to the end of numbers, later", 0, 1, 7, 1e36, 1)
}

// The coast that is left of one with a single bay.
const bay = "0000000000000000 3f80000000000000 4000000040400000 4040000000000000 4080000000000000"

func TestSimpleCoast(t *testing.T) {
	rows := []struct {
		points string
		near   float32
		want   string
	}{
		{"4000000040400000 3f8000003f800000", 0, "4000000040400000 3f8000003f800000"},
		{ones + ones + " " + ones + ones, 0, ones + ones + " " + ones + ones},
		{zeros + zeros + " " + ones + zeros + " 4000000000000000", 0, zeros + zeros + " 4000000000000000"},
		{zeros + zeros + " " + ones + ones + " 4000000000000000", 0.5, zeros + zeros + " " + ones + ones + " 4000000000000000"},
		// It must be farther, and a zero can have a sign.
		{zeros + zeros + " " + ones + ones + " 4000000000000000", 1, zeros + zeros + " 4000000000000000"},
		{zeros + zeros + " " + ones + ones + " 4000000000000000", beforeOne, zeros + zeros + " " + ones + ones + " 4000000000000000"},
		{zeros + zeros + " " + ones + ones + " 4000000000000000", minusZero, zeros + zeros + " " + ones + ones + " 4000000000000000"},
		{zeros + zeros + " " + ones + ones + " 4000000000000000", mostNumber, zeros + zeros + " 4000000000000000"},
		// What is behind both ends of a line on it is not far from it.
		{zeros + zeros + " 40a0000000000000 4000000000000000", 0, zeros + zeros + " 4000000000000000"},
		// Both parts go on.
		{bay, 0, bay},
		{bay, 1, "0000000000000000 4000000040400000 4080000000000000"},
		{bay, 1.2, "0000000000000000 4000000040400000 4080000000000000"},
		{bay, 0.8, bay},
		{bay, 3, "0000000000000000 4080000000000000"},
		// Loops, whose ends are equal, keep the first one of their farthest points.
		{zeros + zeros + " 4040000000000000 c040000000000000 " + minuses + zeros, 0, zeros + zeros + " 4040000000000000 " + minuses + zeros},
		{zeros + zeros + " 4040000000000000 0000000040400000 " + minuses + zeros, 2.5, zeros + zeros + " 4040000000000000 0000000040400000 " + minuses + zeros},
		{zeros + zeros + " 4040000000000000 0000000040400000 " + minuses + zeros, 3, zeros + zeros + " " + minuses + zeros},
		{ones + ones + " " + ones + ones + " " + ones + ones, 0, ones + ones + " " + ones + ones},
		{"bfcf10433e64234a bfdcc3343f39da1d c008da143f84159a c02929103f9652f4 c03888b63fd20314", number(0x3e99999a), "bfcf10433e64234a c03888b63fd20314"},
		{"3f7ccff4bf86fac3 3f3d2ba2bf113a4d 3e83caeabe9d9d4f 3f0866473e0e8b1c 3f357a0a3f2244e1 3f8dda3f3f66ed6c 3fac4a683fa8fc82 3f8b03a63fe2307c 3fa1a262401030d0", number(0x3e4ccccd), "3f7ccff4bf86fac3 3e83caeabe9d9d4f 3fac4a683fa8fc82 3f8b03a63fe2307c 3fa1a262401030d0"},
		{"bead1e47402bbe7d be69ba133ff444c2 3eb0a8593fb00586 3eabe3743ef7f369 3f945e6c3e137ea6 400d073dbeee48e8 40146044bfd5a796 3fbf7922c019e30d 3edfbb68c02db457", number(0x3f19999a), "bead1e47402bbe7d 3eabe3743ef7f369 400d073dbeee48e8 40146044bfd5a796 3edfbb68c02db457"},
		{"3f6a142b3fc63b17 3f469e483fc4f908 3f23135d3fc55359 3f05b8863fbb54fe 3ed07d6e3fb16d88 3e87ad063facad6d 3e2729c43f9f19d7 3e38f5de3f8b0009 3d86bf0e3f7a381a bd5729c23f677ff8 be43284c3f6bd98c bea7224c3f6f05d1 bee5a4663f5f7160 bf17b0733f6cedce bf39be133f596584 bf5fc4d13f608806 bf74f2093f8074a3", number(0x3e99999a), "3f6a142b3fc63b17 bd5729c23f677ff8 bf74f2093f8074a3"},
	}
	for _, r := range rows {
		got, ok := impl.SimpleCoast(line(r.points), r.near)
		wantList(t, "SimpleCoast "+r.points, got, ok, line(r.want))
	}
	got, ok := impl.SimpleCoast(repeated(complex64(1i), 256), 0)
	wantList(t, "SimpleCoast of the most points", got, ok, []complex64{1i, 1i})
	// All of a saw but its ends.
	saw := make([]complex64, 256)
	for i := range saw {
		saw[i] = complex(float32(i), float32(i%2*(1+i)))
	}
	got, ok = impl.SimpleCoast(saw, 0.25)
	wantList(t, "SimpleCoast of a saw", got, ok, saw)
}

// TestSimpleCoastsStayNear holds that what is left out is near to the pieces between which it was.
func TestSimpleCoastsStayNear(t *testing.T) {
	for i, near := range []float32{0, 0.01, 0.05, 0.2, 1} {
		coast, _, _ := impl.CoastBetween(-2, 2+1i, 7, 0.4, int64(i)*7654321)
		simple, ok := impl.SimpleCoast(coast, near)
		if !ok || simple[0] != coast[0] || simple[len(simple)-1] != coast[len(coast)-1] {
			t.Fatalf("SimpleCoast of a coast is %v, %v", simple, ok)
		}
		first := 0
		for k := 1; k < len(simple); k++ {
			last := first + 1 + slices.Index(coast[first+1:], simple[k])
			if others := coast[first+1 : last]; len(others) > 0 {
				_, far, ok := impl.FarthestFrom(others, coast[first], coast[last])
				if !ok || far > near {
					t.Errorf("a point that is left out is %v away, and not %v", far, near)
				}
			}
			first = last
		}
		if near == 0.05 && (len(simple) < 5 || len(simple) > 120) {
			t.Errorf("a simple coast has %d points", len(simple))
		}
	}
}

func TestSimpleCoastFails(t *testing.T) {
	fails := func(what string, points []complex64, near float32) {
		t.Helper()
		got, ok := impl.SimpleCoast(points, near)
		wantNoList(t, "SimpleCoast "+what, got, ok)
	}
	for _, points := range append(wrongLines(), nil, []complex64{}, []complex64{1}) {
		fails("of no line", points, 0.5)
	}
	for _, near := range append(endlessNumbers(), -1, -leastNumber, -mostNumber) {
		fails("with a wrong near", []complex64{0, 1}, near)
		fails("with a wrong near", []complex64{0, 1i, 2}, near)
	}
	far := complex(mostNumber, mostNumber)
	fails("with a distance that is not finite", []complex64{0, far, 2}, 1)
	fails("with a distance that is not finite", []complex64{0, far, 0}, 1)
	// It fails as well where this comes late: in the first and in the second part.
	fails("with a later distance that is not finite", []complex64{0, complex(1e18, 0), complex(0, 1e21), complex(1, 0)}, 0)
	fails("with a later distance that is not finite", []complex64{complex(1, 0), complex(0, 1e21), complex(1e18, 0), 0}, 0)
}

func TestFarthestFrom(t *testing.T) {
	rows := []struct {
		points   string
		from, to complex64
		first    int64
		far      float32
	}{
		{zeros + zeros + " " + ones + "40400000 4000000000000000", 0, 2, 1, 3},
		{ones + "c0400000 " + ones + "40400000", 0, 2, 0, 3}, // on both sides, the first one
		{ones + "40400000 " + ones + "c0400000", 2, 0, 0, 3},
		{ones + "40400000 " + ones + "c0800000 " + ones + "40800000", 0, 2, 1, 4},
		{zeros + zeros + " 40a0000000000000", 0, 2, 0, 0}, // far away, but on the line
		{"c0a0000000000000", 0, 2, 0, 0},
		{"40400000c0800000 4080000040400000 c0a0000000000000", 0, 0, 0, 5},
		{"40400000c0800000 40a0000040400000", complex(0, minusZero), complex(minusZero, 0), 1, number(0x40ba9728)},
		{ones + ones, 1 + 1i, 1 + 1i, 0, 0},
		{end + zeros, 0, 0, 0, mostNumber},
		{"0000000000000001", 0, complex(leastNumber, 0), 0, 0}, // a product that is rounded to 0
		{"bf69a9dec0291504", at(0x3f82cf49c02d5cd6), at(0x3f93ecc8bf9211ba), 0, number(0x3ff7791d)},
		{"c0118b09beb6e023 c0283518bfceb735 c035b980c0225abd", at(0x3fe4bd71c02b0908), at(0x3e9f939c3fa383e5), 2, number(0x40892b70)},
		{"bf766fbc3f6d25ed c0150c3e3e73e365 be9ca3a7400c53cc 3f9c9f5cbd9c6c4e c02eec9fbf27d0e3", at(0x3ffc18b13eb2551e), at(0xc01d7c9d40157c3d), 4, number(0x4035ce65)},
		{"3f1fcaa9bfd77113 3f2783503e9edb26 3eb3cfefc02b64f7 bdd10be63ffb768e 3e00ab93403cd8d4 bfdb710fc0228e35 bf39e81f3f61c0aa 3fd22447c00caf78", at(0xc01b427f4014517d), at(0xbfa98f243febad02), 5, number(0x4085a102)},
		{"4024b2a6bf7040fb 3f3686a6bf35ca88 3e956a5abf80fe62 bef0dd2c3f9a04fd", at(0xbe9d26eec00b5da8), at(0xbe9d26eec00b5da8), 3, number(0x4058a0e2)},
	}
	for _, r := range rows {
		first, far, ok := impl.FarthestFrom(line(r.points), r.from, r.to)
		wantInteger(t, "the index of FarthestFrom "+r.points, first, ok, r.first)
		wantSum(t, "the distance of FarthestFrom "+r.points, far, ok, r.far)
	}
	most := repeated(complex64(1i), 256)
	most[254], most[255] = -2i, 2i
	first, far, ok := impl.FarthestFrom(most, -1, 1)
	wantInteger(t, "FarthestFrom of the most points", first, ok, 254)
	wantSum(t, "FarthestFrom of the most points", far, ok, 2)
}

func TestFarthestFromFails(t *testing.T) {
	fails := func(what string, points []complex64, from, to complex64) {
		t.Helper()
		first, far, ok := impl.FarthestFrom(points, from, to)
		wantNone(t, "FarthestFrom "+what, first, ok)
		wantNone(t, "FarthestFrom "+what, far, ok)
	}
	for _, points := range append(wrongLines(), nil, []complex64{}) {
		fails("of no points", points, 0, 1)
	}
	for _, z := range endlessParts() {
		fails("from no number", []complex64{1i}, z, 1)
		fails("to no number", []complex64{1i}, 0, z)
		fails("from and to no number", []complex64{1i}, z, z)
	}
	// One distance that is not finite is enough, wherever it is.
	far := complex(mostNumber, mostNumber)
	for _, points := range [][]complex64{{far}, {far, 1, 2}, {1, far, 2}, {1, 2, far}} {
		fails("with a distance that is not finite", points, 0, 0)
		fails("with a product that is not finite", points, 0, 2)
	}
	fails("with a difference that is not finite", []complex64{1}, complex(mostNumber, 0), complex(-mostNumber, 0))
	fails("with a product that is not finite", []complex64{complex(0, 1e20)}, 0, 1e20)
}

func TestDoLinesCross(t *testing.T) {
	rows := []struct {
		a, b, c, d complex64
		want       bool
	}{
		{-1, 1, -1i, 1i, true},
		{0, 2 + 2i, 2, 2i, true},
		{0, 4, 1 - 1i, 3 + 1i, true},
		{0, 4, 1 + 1i, 3 + 2i, false},  // on the same side
		{0, 4, 5 - 1i, 5 + 1i, false},  // beside it: only one line is crossed
		{0, 1, 3 - 1i, 3 + 1i, false},  // the same
		{-1, 1, 0, 1i, false},          // an end on the other piece is on no side
		{0, 2, 2, 2 + 2i, false},       // with an end in common
		{0, 2, 0, 2, false},            // the same piece
		{0, 2, 1, 3, false},            // on the same line
		{0, 1, 2, 3, false},            // the same, apart
		{0, 2, 1i, 2 + 1i, false},      // beside one another
		{1, 1, 0, 2, false},            // a piece without a length
		{0, 0, 0, 0, false},            // two of them
		{-1, 1, 1 - 1i, 1 + 1i, false}, // an end of the former on the latter
		{0, complex(leastNumber, 0), complex(0, -leastNumber), complex(leastNumber, leastNumber), false}, // products that are rounded to 0
		{0, complex(1e20, 0), complex(1e19, -1e20), complex(1e19, 1e20), true},                           // products that are not finite still have signs
		{complex(-mostNumber, 0), complex(mostNumber, 0), -1i, 1i, true},
		{complex(-mostNumber, -mostNumber), complex(mostNumber, mostNumber), complex(-1, 1), complex(1, -1), false}, // no numbers are on no side
	}
	for _, r := range rows {
		for _, p := range [][4]complex64{
			{r.a, r.b, r.c, r.d}, {r.b, r.a, r.c, r.d}, {r.a, r.b, r.d, r.c}, {r.b, r.a, r.d, r.c},
			{r.c, r.d, r.a, r.b}, {r.c, r.d, r.b, r.a}, {r.d, r.c, r.a, r.b}, {r.d, r.c, r.b, r.a},
		} {
			if got := impl.DoLinesCross(p[0], p[1], p[2], p[3]); got != r.want {
				t.Errorf("DoLinesCross %v is %v", p, got)
			}
		}
	}
	for _, z := range endlessParts() {
		crosses := impl.DoLinesCross(z, 1, -1i, 1i) || impl.DoLinesCross(-1, z, -1i, 1i) || impl.DoLinesCross(-1, 1, z, 1i) || impl.DoLinesCross(-1, 1, -1i, z)
		wantBool(t, "DoLinesCross of no number", crosses, false)
	}
}

// zigzag goes to and fro across all of its pieces.
func zigzag(count int) []complex64 {
	points := make([]complex64, count)
	for i := range points {
		points[i] = complex(float32(i%2*2-1)*float32(1000-i), float32(i%2*2-1)*float32(i*i))
	}
	return points
}

func TestCrossingsOf(t *testing.T) {
	rows := []struct {
		points string
		want   int64
	}{
		{"", 0},
		{ones + ones, 0},
		{ones + ones + " " + zeros + zeros, 0},
		{zeros + zeros + " 4000000040000000 4000000000000000 0000000040000000", 1},
		{zeros + zeros + " 4000000040000000 4000000000000000 0000000040000000 " + zeros + zeros, 1},
		{zeros + zeros + " " + ones + zeros + " " + ones + ones + " " + zeros + ones + " " + zeros + zeros, 0},
		// To and fro on the same line, and by equal points.
		{zeros + zeros + " " + ones + zeros + " " + zeros + zeros + " " + ones + zeros, 0},
		{zeros + zeros + " 4000000040000000 4000000040000000 4000000000000000 4000000000000000 0000000040000000", 1},
		{"bf20d482bfe8ee96 3fc62dd7bf8af33a bf7d191e4005b92a 401114c3bf27f0b6 be428e9d3ea486be", 1},
		{"bfb8119cbf4c984e 40031f17bdd7db95 bd8f235e3f16da57 c016fc3ebfaa6cc4 bfc637473fcc43ce 3ecf112f3e3ff2b6", 1},
		{"bfdc975ac03b43c3 c0202f96bfefe9e7 bf9271fc3e2bf225 4011438ebfd1dc0d c0037e59c03d1b00 3e61800abf03e66a be2dda8140243dce 3f2866263f2299d7", 3},
		{"bfccccb23e4b8dc1 bfe4c7c34039533c bf98f588bf86a561 403c1f94bf200588 3f4e16f7400fe30e 3f33a413bf476519 c0302ad0bfae38f5 4038eefa3fd5540c 403b09353e965e8e 3e02cdb53fc2a94d 3e9b296c403c9005 4017867ebbd5819e", 10},
		{"3f89d242c0028ab6 4017eea0bfb928bc 3fb08a2b402222a7 c032c316bfb50f6d c025c539bf8f4881 40287b593f9a8375 c03b857fc018a8a1 3faac19c3f447b62 bfbb4615bfede9ce c03474f53ff2d23b bf64fcf140099263 bfa541d13e223531 4000610bc03a06ff 402577a0bfe79263 4031e255be447e88 be9f4f493d688260 bfc59a3bbf8c63ac 3fe224babf2aa888 3fd42ac1c0056bb5 3fae20e4bde42470", 29},
	}
	for _, r := range rows {
		got, ok := impl.CrossingsOf(line(r.points))
		wantInteger(t, "CrossingsOf "+r.points, got, ok, r.want)
	}
	// All pairs of its 63 pieces cross but those that follow one another.
	got, ok := impl.CrossingsOf(zigzag(64))
	wantInteger(t, "CrossingsOf a zigzag", got, ok, 63*62/2-62)
}

func TestCrossingsOfFails(t *testing.T) {
	for _, points := range append(wrongLines(), make([]complex64, 65), zigzag(65), make([]complex64, 256)) {
		got, ok := impl.CrossingsOf(points)
		wantNone(t, "CrossingsOf no such points", got, ok)
	}
}
