package tests

import (
	"math"
	"testing"

	"loop.example/g01318/impl"
)

// endlessParts are complex numbers with a part that is not finite.
func endlessParts() []complex64 {
	var list []complex64
	for _, x := range endlessNumbers() {
		list = append(list, complex(x, 1), complex(1, x), complex(x, x))
	}
	return list
}

// wrongLines are lists that are no points.
func wrongLines() [][]complex64 {
	list := [][]complex64{make([]complex64, 257), repeated(complex64(1), 5000)}
	for _, z := range endlessParts() {
		list = append(list, []complex64{z}, []complex64{z, 1, 2}, []complex64{0, z, 2}, []complex64{0, 1, z})
	}
	return list
}

func wantNoLine(t *testing.T, what string, call func(points []complex64) ([]complex64, bool)) {
	t.Helper()
	for _, points := range wrongLines() {
		got, ok := call(points)
		wantNoList(t, what, got, ok)
	}
}

const (
	end     = "7f7fffff" // the greatest number
	lowEnd  = "ff7fffff"
	zeros   = "00000000"
	minuses = "80000000" // -0
	ones    = "3f800000"
)

func TestSpanOf(t *testing.T) {
	rows := []struct {
		points    string
		low, high complex64
	}{
		{"4000000040400000", complex(2, 3), complex(2, 3)},
		{zeros + zeros + " " + ones + zeros + " " + ones + ones + " " + zeros + ones, 0, 1 + 1i},
		{"c0000000c0400000 3f00000040a00000 40e00000bf800000", complex(-2, -3), complex(7, 5)},
		// The first one of equal ones: zeros with and without a sign.
		{zeros + minuses + " " + minuses + zeros, complex(0, minusZero), complex(0, minusZero)},
		{minuses + zeros + " " + zeros + minuses, complex(minusZero, 0), complex(minusZero, 0)},
		{zeros + minuses + " " + minuses + zeros + " " + ones + ones, complex(0, minusZero), 1 + 1i},
		{"bf800000bf800000 " + minuses + zeros + " " + zeros + minuses, complex(-1, -1), complex(minusZero, 0)},
		{zeros + "00000001 8000000180000001", complex(-leastNumber, -leastNumber), complex(0, leastNumber)},
		{end + lowEnd + " " + lowEnd + end, complex(-mostNumber, -mostNumber), complex(mostNumber, mostNumber)},
		{"bf0c7d283e80f022 400b05a6bff8521f", at(0xbf0c7d28bff8521f), at(0x400b05a63e80f022)},
		{"403bf71c3f949daa bf3abc9ebf11d8c0 3f92ed01bf858a39 c023c16740032511", at(0xc023c167bf858a39), at(0x403bf71c40032511)},
		{"3ffdcf583f488993 3f0a33103e790336 bfccdaedbe887b35 3fe1d67c3f8d1fc5 bf6cafb13ff576a9 400255f8c02f3fab c0039bcebfd49f9d c03a65e63fc2a754 3f6178543e84b730", at(0xc03a65e6c02f3fab), at(0x400255f83ff576a9)},
	}
	for _, r := range rows {
		low, high, ok := impl.SpanOf(line(r.points))
		wantBool(t, "SpanOf "+r.points, ok, true)
		wantComplex(t, "the least of SpanOf "+r.points, low, r.low)
		wantComplex(t, "the greatest of SpanOf "+r.points, high, r.high)
	}
	most := repeated(complex64(5), 256)
	most[255] = complex(6, 4)
	low, high, ok := impl.SpanOf(most)
	wantBool(t, "SpanOf the most points", ok, true)
	wantComplex(t, "the least of the most points", low, 5)
	wantComplex(t, "the greatest of the most points", high, complex(6, 4))
	for _, points := range append(wrongLines(), nil, []complex64{}) {
		low, high, ok := impl.SpanOf(points)
		wantNone(t, "SpanOf no points", low, ok)
		wantNone(t, "SpanOf no points", high, ok)
	}
}

func TestLongOfLine(t *testing.T) {
	rows := []struct {
		points string
		want   float32
	}{
		{"", 0},
		{"4000000040400000", 0},
		{zeros + zeros + " 4040000040800000", 5},
		{zeros + zeros + " " + ones + zeros + " " + ones + ones + " " + zeros + ones, 3},
		{ones + zeros + " " + ones + zeros + " " + zeros + zeros + " " + zeros + zeros + " " + ones + zeros, 2},
		{zeros + zeros + " 0000000100000000", leastNumber},
		{end + zeros + " " + zeros + zeros, mostNumber},
		{"bf0c7d283e80f022 400b05a6bff8521f", number(0x405f9da9)},
		{"bfd313d6c034d3a0 c01334c9c03c9e5f c003d4b73da88206", number(0x406ce209)},
		{"403bf71c3f949daa bf3abc9ebf11d8c0 3f92ed01bf858a39 c023c16740032511", number(0x412d151e)},
		{"3f340cc3c014fcfc c025182ac01ba9bc 403039fec016a300 3f407ca34034505d c0328f08bf2f4a43", number(0x41992762)},
		{"be0b95f2402015e7 bfef2913bfb996f0 bfc1902bc02d1afa 3f856a1e3ff33ad3 bec37c8fc03178d0 3fa407883fb60d25 3f6bb171bf839839", number(0x41b6144b)},
		{"3ffdcf583f488993 3f0a33103e790336 bfccdaedbe887b35 3fe1d67c3f8d1fc5 bf6cafb13ff576a9 400255f8c02f3fab c0039bcebfd49f9d c03a65e63fc2a754 3f6178543e84b730", number(0x41d9ce9e)},
	}
	for _, r := range rows {
		got, ok := impl.LongOfLine(line(r.points))
		wantSum(t, "LongOfLine "+r.points, got, ok, r.want)
	}
	// Sums are rounded in order: 1 is lost beside 2 to the power of 24, but not before it.
	got, ok := impl.LongOfLine([]complex64{0, 16777216, 16777215, 16777214})
	wantSum(t, "LongOfLine with small pieces at last", got, ok, 16777216)
	got, ok = impl.LongOfLine([]complex64{-2, -1, 0, 16777216})
	wantSum(t, "LongOfLine with small pieces at first", got, ok, 16777218)
	steps := make([]complex64, 256)
	for i := range steps {
		steps[i] = complex(float32(i), 0)
	}
	got, ok = impl.LongOfLine(steps)
	wantSum(t, "LongOfLine of the most points", got, ok, 255)
}

// wantNoNumber wants a failure for lists that are no points, and for others with results that are not finite.
func wantNoNumber(t *testing.T, what string, call func(points []complex64) (float32, bool), endless ...string) {
	t.Helper()
	for _, points := range wrongLines() {
		got, ok := call(points)
		wantNone(t, what+" of no points", got, ok)
	}
	for _, text := range endless {
		got, ok := call(line(text))
		wantNone(t, what+" that is not finite", got, ok)
	}
}

func TestLongOfLineFails(t *testing.T) {
	wantNoNumber(t, "LongOfLine", impl.LongOfLine,
		end+zeros+" "+lowEnd+zeros, zeros+zeros+" "+end+end, zeros+zeros+" "+end+zeros+" "+zeros+zeros)
}

func TestLoopArea(t *testing.T) {
	rows := []struct {
		points string
		want   float32
	}{
		{"", 0},
		{"4000000040400000", 0},
		{"4000000040400000 3f800000bf800000", 0},
		{zeros + zeros + " " + ones + zeros + " " + ones + ones + " " + zeros + ones, 1},
		{zeros + zeros + " " + zeros + ones + " " + ones + ones + " " + ones + zeros, -1},
		{zeros + zeros + " " + ones + zeros + " " + zeros + ones, 0.5},
		// The greatest and the least numbers.
		{end + zeros + " " + zeros + ones, 0},
		{end + zeros + " " + zeros + "3f000000 " + zeros + zeros, mostNumber / 4},
		{"0000000100000000 " + zeros + ones + " " + zeros + zeros, 0}, // a half of the least number, ties to even
		{"0000000300000000 " + zeros + ones + " " + zeros + zeros, 2 * leastNumber},
		{"bf0c7d283e80f022 400b05a6bff8521f", number(0x00000000)},
		{"bfd313d6c034d3a0 c01334c9c03c9e5f c003d4b73da88206", number(0xbf78b6f4)},
		{"403bf71c3f949daa bf3abc9ebf11d8c0 3f92ed01bf858a39 c023c16740032511", number(0xc08b7b83)},
		{"3f340cc3c014fcfc c025182ac01ba9bc 403039fec016a300 3f407ca34034505d c0328f08bf2f4a43", number(0x416738ec)},
		{"be0b95f2402015e7 bfef2913bfb996f0 bfc1902bc02d1afa 3f856a1e3ff33ad3 bec37c8fc03178d0 3fa407883fb60d25 3f6bb171bf839839", number(0x4080f410)},
		{"3ffdcf583f488993 3f0a33103e790336 bfccdaedbe887b35 3fe1d67c3f8d1fc5 bf6cafb13ff576a9 400255f8c02f3fab c0039bcebfd49f9d c03a65e63fc2a754 3f6178543e84b730", number(0xc106dcc5)},
	}
	for _, r := range rows {
		got, ok := impl.LoopArea(line(r.points))
		wantSum(t, "LoopArea "+r.points, got, ok, r.want)
	}
}

func TestLoopAreaFails(t *testing.T) {
	wantNoNumber(t, "LoopArea", impl.LoopArea,
		end+zeros+" "+zeros+"40000000 "+zeros+zeros, // the sum is not finite
		end+zeros+" "+zeros+end+" "+zeros+zeros,
		zeros+end+" "+end+zeros+" "+zeros+zeros,
		end+end) // it is no number
}

func TestMoveLine(t *testing.T) {
	rows := []struct {
		points string
		by     complex64
		want   string
	}{
		{"", 3, ""},
		{zeros + zeros + " " + ones + ones, 2, "4000000000000000 404000003f800000"},
		{minuses + minuses + " " + minuses + zeros, complex(minusZero, minusZero), minuses + minuses + " " + minuses + zeros},
		{minuses + minuses, 0, zeros + zeros},
		{"4b80000000000001", complex(1, leastNumber), "4b80000000000002"},
		{end + lowEnd, complex(minusZero, 0), end + lowEnd},
		{"403df398bf5c2485", at(0xbfe721c7c0152d38), "3f94c569c04c3659"},
		{"bf758f404001d04f 3f23eec5c0293d46 becd1ab7c02d9336", at(0x3f3d101ac010f6c9), "be61fc98be7267a0 3fb07f70c09d1a08 3ead057dc09f4500"},
		{"bff6309e3f5acd0b 4000da633f37c336 bf9e70843f5f3497 bfaf10f9c03d6981", at(0xbfada2a23f9090ab), "c051e9a03ffdf730 3f2824483fec7246 c02609934000157b c02e59cebfea4257"},
	}
	for _, r := range rows {
		got, ok := impl.MoveLine(line(r.points), r.by)
		wantList(t, "MoveLine "+r.points, got, ok, line(r.want))
	}
	got, ok := impl.MoveLine(repeated(complex64(1), 256), 1i)
	wantList(t, "MoveLine of the most points", got, ok, repeated(complex64(1+1i), 256))
	wantNoLine(t, "MoveLine of no points", func(points []complex64) ([]complex64, bool) { return impl.MoveLine(points, 1) })
	for _, by := range endlessParts() {
		for _, points := range []string{"", ones + ones} {
			got, ok := impl.MoveLine(line(points), by)
			wantNoList(t, "MoveLine by no number", got, ok)
		}
	}
	for _, points := range []string{end + zeros, zeros + end, ones + ones + " " + zeros + end} {
		got, ok := impl.MoveLine(line(points), complex(mostNumber, mostNumber))
		wantNoList(t, "MoveLine to the end of numbers", got, ok)
	}
}

func TestTurnLine(t *testing.T) {
	rows := []struct {
		points      string
		turn, scale float32
		want        string
	}{
		{"", 3, 4, ""},
		{ones + zeros, 0.5, 2, "c000000000000000"},
		{"4000000040400000 " + minuses + zeros, 0, 1, "4000000040400000 8000000000000000"},
		{"4000000040400000", 0.25, 0, zeros + zeros},
		{end + zeros, 0.25, 1, zeros + end},
		{end + zeros, 0.5, minusZero, zeros + zeros},
		{"0000000100000000", 0, 0.5, zeros + zeros},
		{"0000000180000003", 0, 0.5, zeros + "80000002"},
		// Turns from 2 to the power of 52 on are none.
		{ones + zeros, number(0x59800000), 3, "4040000000000000"},
		{"42c80000c3480000", 0.25, 1e36, "7f1676997e967699"},
		{"3f42441ebfec0fa4", number(0x3fae6652), number(0x3ffdf542), "3fe6fd0e40615b30"},
		{"bfa970dc4030ff5a bfb659c8c0271666 3d965687400c231a", number(0x3ecc2d29), number(0x3e8e5d63), "be247c2cbf565766 3f3ff6693eb28c95 bec18fa6bef49392"},
		{"bd97be4cbfa5c812 bf99b154bf14dbf9 3e90b4e8402a0e74 c0240e19bfbe59c9", number(0x3fe310b2), number(0x3f719dea), "bf9c0a89bde9a986 bf3665453f84e388 40213f643de5be62 bfe00ba3400b9f9c"},
		{"c023721bbeb353ba 3f67ee77401e319e c01fa821401a7b05", number(0x3f8a989d), number(0xbfaa0a0f), "402d9cb54005c065 3f166b11c05ca3c0 408f04b1bf91558c"},
	}
	for _, r := range rows {
		got, ok := impl.TurnLine(line(r.points), r.turn, r.scale)
		wantList(t, "TurnLine "+r.points, got, ok, line(r.want))
	}
	got, ok := impl.TurnLine(repeated(complex64(1), 256), 0, -2)
	wantBool(t, "TurnLine of the most points", ok && len(got) == 256 && got[255] == -2, true)
	wantNoLine(t, "TurnLine of no points", func(points []complex64) ([]complex64, bool) { return impl.TurnLine(points, 0.5, 1) })
	for _, x := range endlessNumbers() {
		for _, points := range []string{"", ones + ones} {
			got, ok := impl.TurnLine(line(points), x, 1)
			wantNoList(t, "TurnLine by a wrong turn", got, ok)
			got, ok = impl.TurnLine(line(points), 0.5, x)
			wantNoList(t, "TurnLine by a wrong scale", got, ok)
		}
	}
	for _, points := range []string{end + zeros, zeros + end, ones + ones + " " + end + zeros} {
		got, ok := impl.TurnLine(line(points), 0.1, 2)
		wantNoList(t, "TurnLine to the end of numbers", got, ok)
	}
}

func TestFitLine(t *testing.T) {
	rows := []struct {
		points   string
		from, to complex64
		want     string
	}{
		{zeros + zeros + " " + ones + zeros + " 4000000000000000", 0, 4, zeros + zeros + " 4000000000000000 4080000000000000"},
		{zeros + zeros + " " + ones + zeros + " 4000000000000000", 1 + 1i, 1 + 3i, ones + ones + " 3f80000040000000 3f80000040400000"},
		{"4000000040000000 4000000040000000 404000003f800000", 1, 1, "3f80000000000000 3f80000000000000 3f80000000000000"},
		{"0000000100000000 0000000300000000", complex(2*leastNumber, 2*leastNumber), complex(10*leastNumber, 2*leastNumber), "0000000200000002 0000000a00000002"},
		{end + zeros + " 7effffff00000000", 1, 0.5, ones + zeros + " 3f00000000000000"},
		// The last point is nearly to: the quotient is rounded.
		{end + zeros + " " + zeros + zeros, 1, 0, ones + zeros + " 3380000000000000"},
		{"3e4d4b7f3ff9ed5c bfc5463f3f9aa16c", at(0x3eb87e3dc023f6d0), at(0xbfaf5147bf067d76), "3eb87e3dc023f6d0 bfaf5147bf067d78"},
		{"c00a68a4402a6ede bfbfefe5bfce0458 3f1543933e2966f8", at(0xbf8aed62bf8611b8), at(0xbcaa5afd401d273a), "bf8aed62bf8611b8 401c42b03facd574 bcaa5b00401d273a"},
		{"c021acd1401e39aa 4028313e3f8cc87e 3fe8758ebf351b5a 4031a6e23fba2bcf 3f8f68f2be9cb63e", at(0xbfd684a13f931260), at(0x3fb5155cc03e0a81), "bfd684a13f931260 405e5958bff4a658 4002cc76c0676d14 406f8428bfc9637c 3fb5155bc03e0a80"},
		{"bf90f84e3e5b4928 bfdd48d0c00e53a2 bfefa691c039fdd9 c011add5bf26d8a0", at(0x3c0ce4723f545e64), at(0xbf935b67c00ec44a), "3c0ce4723f545e64 3fe81c26c09359ca 40174478c0c31bc2 bf935b67c00ec44a"},
	}
	for _, r := range rows {
		got, ok := impl.FitLine(line(r.points), r.from, r.to)
		wantList(t, "FitLine "+r.points, got, ok, line(r.want))
	}
	most := append(make([]complex64, 255), 2)
	got, ok := impl.FitLine(most, 1i, 2i)
	wantList(t, "FitLine of the most points", got, ok, append(repeated(complex64(1i), 255), 2i))
}

func TestFitLineFails(t *testing.T) {
	fails := func(what string, points []complex64, from, to complex64) {
		t.Helper()
		got, ok := impl.FitLine(points, from, to)
		wantNoList(t, "FitLine "+what, got, ok)
	}
	for _, points := range append(wrongLines(), nil, []complex64{}, []complex64{1}) {
		fails("of no line", points, 0, 1)
	}
	for _, z := range endlessParts() {
		fails("from no number", []complex64{0, 1}, z, 1)
		fails("to no number", []complex64{0, 1}, 0, z)
	}
	// Nothing goes from one place to another one, or to itself.
	fails("of equal points", []complex64{1, 1}, 0, 1)
	fails("of equal points", []complex64{1, 1}, 1, 1)
	fails("of a loop", []complex64{0, 1, 1i, complex(minusZero, minusZero)}, 0, 1)
	fails("with a quotient that is not finite", []complex64{0, complex(leastNumber, 0)}, 0, 1)
	fails("with a difference that is not finite", []complex64{0, 1}, complex(mostNumber, 0), complex(-mostNumber, 0))
	fails("with a difference that is not finite", []complex64{complex(mostNumber, 0), complex(-mostNumber, 0)}, 0, 1)
	fails("with a point that is not finite", []complex64{0, 2, 1}, 0, complex(mostNumber, 0))
}

func TestEvenPoints(t *testing.T) {
	rows := []struct {
		points string
		count  int64
		want   string
	}{
		{zeros + zeros + " 4080000000000000", 5, zeros + zeros + " 3f80000000000000 4000000000000000 4040000000000000 4080000000000000"},
		{zeros + zeros + " 4080000000000000", 2, zeros + zeros + " 4080000000000000"},
		{zeros + zeros + " " + ones + zeros + " " + ones + ones, 3, zeros + zeros + " " + ones + zeros + " " + ones + ones},
		// With equal points: at first, at last, in the middle, and all of one of two pieces.
		{ones + zeros + " " + ones + zeros + " 4040000000000000", 3, ones + zeros + " 4000000000000000 4040000000000000"},
		{ones + zeros + " 4040000000000000 4040000000000000", 3, ones + zeros + " 4000000000000000 4040000000000000"},
		{zeros + zeros + " " + ones + zeros + " " + ones + zeros + " 4000000000000000", 3, zeros + zeros + " " + ones + zeros + " 4000000000000000"},
		// It goes on from a point that it reaches, but not from the last but one.
		{zeros + zeros + " " + ones + zeros + " " + ones + "40400000", 5, zeros + zeros + " 3f80000000000000 3f8000003f800000 3f80000040000000 3f80000040400000"},
		{minuses + minuses + " " + minuses + minuses + " bf80000000000000", 3, "8000000000000000 bf00000000000000 bf80000000000000"},
		{ones + ones + " " + ones + ones + " " + minuses + ones, 2, ones + ones + " " + minuses + ones},
		{minuses + minuses + " bf800000bf800000", 2, minuses + minuses + " bf800000bf800000"},
		{"0000000100000000 0000000400000000", 4, "0000000100000000 0000000200000000 0000000300000000 0000000400000000"},
		{end + zeros + " " + zeros + zeros, 3, end + zeros + " 7effffff00000000 " + zeros + zeros},
		{"3e0958a9c02d14eb 3fe312fc3f12f369", 3, "3e0958a9c02d14eb 3f743e11bf885811 3fe312fc3f12f369"},
		{"bee44287c0397dba 3da13e9ebed5c19c bf7456d43ffef273", 4, "bee44287c0397dba bdb8bbb4bf9bb489 be8dca383ed2e214 bf7456d43ffef273"},
		{"3f39e5d83f7c7766 3f84d8db4025405e c01185db4020b96a c02c51383f2a1a61 c02da005c01d1682", 6, "3f39e5d83f7c7766 3f2c798c4024c0ef bfa8745b40220896 c02020ef3fc09652 c02cca63beedb9a2 c02da005c01d1682"},
		{"bff47931c00e5895 3f472fd6bf3b76b5 401f0f2e3fa40fc2 bfe7c6af3f3d4f78 403dacc93ea30b23 bed570bbc0396aad bffc3c02be88601e", 3, "bff47931c00e5895 bf14b5d03f218b82 bffc3c02be88601e"},
		{"be4c44053e64c46e 3fb15bc93fb5bfcd bf54cd54c00e048c 3f9d02704019af78", 9, "be4c44053e64c46e 3f6daaa73f899241 3f72ce463f33cc74 3e5a6160bf01250e bf059d98bfdb0b4b beff1549bfbc5295 3d9d2980be38bb50 3f26d50c3f8e23c6 3f9d02704019af78"},
		{"3f60d07cbd01a794 3f60d07cbd01a794 c02d9063bfc72b68 c02d9063bfc72b68 c02d9063bfc72b68 bfb0edf7bf4c4aae bfb0edf7bf4c4aae", 6, "3f60d07cbd01a794 bdf90cf0bee98e16 bf8f89dcbf61739d c007c174bfa71017 c014db47bfaaffff bfb0edf7bf4c4aae"},
	}
	for _, r := range rows {
		got, ok := impl.EvenPoints(line(r.points), r.count)
		wantList(t, "EvenPoints "+r.points, got, ok, line(r.want))
	}
	most, ok := impl.EvenPoints([]complex64{0, 255}, 256)
	if !ok || len(most) != 256 || most[255] != 255 || impl.LongOf(most[77]-77) > 0.0001 {
		t.Errorf("EvenPoints of the most points is %v, %v", most, ok)
	}
	// Distances along the least lines are rounded, even up to the whole line: there is no piece behind the last one.
	for _, points := range []string{zeros + zeros + " 0000000300000000", zeros + zeros + " 0000000300000000 0000000300000000"} {
		least, ok := impl.EvenPoints(line(points), 256)
		wantBool(t, "EvenPoints of a short line", ok, true)
		for i, z := range least {
			want := float32(math.RoundToEven(float64(i)*3/255)) * leastNumber
			wantComplex(t, "a point of a short line", z, complex(want, 0))
		}
	}
	got, ok := impl.EvenPoints(most, 2)
	wantList(t, "EvenPoints of most points", got, ok, []complex64{0, 255})
}

func TestEvenPointsFails(t *testing.T) {
	fails := func(what string, points []complex64, count int64) {
		t.Helper()
		got, ok := impl.EvenPoints(points, count)
		wantNoList(t, "EvenPoints "+what, got, ok)
	}
	for _, points := range append(wrongLines(), nil, []complex64{}, []complex64{1}) {
		fails("of no line", points, 2)
	}
	for _, count := range []int64{-1, 0, 1, 257, 1 << 40, -1 << 63} {
		fails("of a wrong count", []complex64{0, 1}, count)
	}
	fails("of equal points", []complex64{1, 1}, 2)
	fails("of equal points", repeated(complex64(1i), 256), 3)
	fails("of equal zeros", []complex64{0, complex(minusZero, minusZero)}, 2)
	fails("of a line without a length that is finite", []complex64{complex(mostNumber, 0), complex(-mostNumber, 0)}, 2)
	fails("of a line without a length that is finite", line(end+zeros+" "+end+zeros+" "+lowEnd+zeros+" "+lowEnd+zeros), 2)
}
