package tests

import (
	"testing"

	"loop.example/g01318/impl"
)

func TestSumNumbers(t *testing.T) {
	rows := []struct {
		what string
		list []float32
		want float32
	}{
		{"no numbers", nil, 0},
		{"an empty list", []float32{}, 0},
		{"numbers", []float32{1, 2, 3.5}, 6.5},
		{"from the left, a large one goes last", []float32{1e30, 1, -1e30}, 0},
		{"from the left, a large one goes first", []float32{1e30, -1e30, 1}, 1},
		{"each sum rounded to 32 bits", []float32{16777216, 1, 1}, 16777216},
		{"small ones first", []float32{1, 1, 16777216}, 16777218},
		{"a zero with a sign", []float32{minusZero}, 0},
		{"zeros with signs", []float32{minusZero, minusZero}, 0},
		{"subnormal numbers", []float32{leastNumber, mostSubnorm}, leastNormal},
		{"too large ones", []float32{mostNumber, mostNumber, -mostNumber}, inf},
		{"infinities", []float32{inf, minusInf}, nan},
		{"an infinity", []float32{1, minusInf}, minusInf},
		{"a not-a-number", []float32{1, otherNaN, 1}, nan},
		{"the most numbers", repeated[float32](0.5, 256), 128},
	}
	for _, r := range rows {
		got, ok := impl.SumNumbers(r.list)
		wantSum(t, "SumNumbers: "+r.what, got, ok, r.want)
	}
	for _, count := range []int{257, 1000} {
		got, ok := impl.SumNumbers(repeated[float32](1, count))
		wantNone(t, "SumNumbers of too many", got, ok)
	}
}

func TestDotNumbers(t *testing.T) {
	rows := []struct {
		what string
		a, b []float32
		want float32
	}{
		{"no numbers", nil, []float32{}, 0},
		{"numbers", []float32{1, 2}, []float32{3, 4}, 11},
		{"from the left", []float32{1e20, 1, -1e20}, []float32{1e10, 1, 1e10}, 0},
		{"sums rounded to 32 bits", []float32{4096, 1, 1}, []float32{4096, 1, 1}, 16777216},
		{"a product rounded before it is added", []float32{1 + 0x1p-11, 1 + 0x1p-12}, []float32{-1, 1 + 0x1p-12}, 0},
		{"a product too large for 32 bits", []float32{mostNumber, mostNumber}, []float32{2, -1}, inf},
		{"a zero with a sign", []float32{minusZero}, []float32{1}, 0},
		{"a subnormal product", []float32{leastNormal}, []float32{0.5}, number(0x00400000)},
		{"zero times infinity", []float32{0}, []float32{inf}, nan},
		{"a not-a-number", []float32{1, 1}, []float32{otherNaN, 1}, nan},
		{"the most numbers", repeated[float32](2, 256), repeated[float32](0.5, 256), 256},
	}
	for _, r := range rows {
		got, ok := impl.DotNumbers(r.a, r.b)
		wantSum(t, "DotNumbers: "+r.what, got, ok, r.want)
	}
	one, many := []float32{1}, repeated[float32](1, 257)
	for _, pair := range [][2][]float32{{one, nil}, {nil, one}, {one, {1, 1}}, {many, many}, {many, many[:256]}, {many[:256], many}} {
		got, ok := impl.DotNumbers(pair[0], pair[1])
		wantNone(t, "DotNumbers of other lengths or too many", got, ok)
	}
}

// wantComplexSum checks a complex number that comes with a success.
func wantComplexSum(t *testing.T, what string, got complex64, ok bool, want complex64) {
	t.Helper()
	wantBool(t, what+": success", ok, true)
	wantComplex(t, what, got, want)
}

func TestSumComplex(t *testing.T) {
	rows := []struct {
		what string
		list []complex64
		want complex64
	}{
		{"no numbers", nil, 0},
		{"an empty list", []complex64{}, 0},
		{"numbers", []complex64{1, complex(2, 3)}, complex(3, 3)},
		{"from the left", []complex64{complex(1e30, 1e30), complex(1, -1e30), complex(-1e30, 1)}, complex(0, 1)},
		{"sums rounded to 32 bits", []complex64{complex(16777216, 1), complex(1, 1), complex(1, 16777216)}, complex(16777216, 16777218)},
		{"zeros with signs", []complex64{complex(minusZero, minusZero)}, 0},
		{"infinities", []complex64{complex(inf, 1), complex(minusInf, inf)}, complex(nan, inf)},
		{"a not-a-number in one part", []complex64{complex(1, otherNaN), 1}, complex(2, nan)},
		{"the most numbers", repeated[complex64](complex(1, -0.25), 256), complex(256, -64)},
	}
	for _, r := range rows {
		got, ok := impl.SumComplex(r.list)
		wantComplexSum(t, "SumComplex: "+r.what, got, ok, r.want)
	}
	got, ok := impl.SumComplex(repeated[complex64](1, 257))
	wantNone(t, "SumComplex of too many", got, ok)
}

func TestDotComplex(t *testing.T) {
	rows := []struct {
		what           string
		a, b           []complex64
		dot, conjugate complex64
	}{
		{"no numbers", nil, []complex64{}, 0, 0},
		{"i and i", []complex64{complex(0, 1)}, []complex64{complex(0, 1)}, -1, 1},
		{"i and 1", []complex64{complex(0, 1)}, []complex64{1}, complex(0, 1), complex(0, -1)},
		{"two", []complex64{complex(1, 2), 2}, []complex64{complex(3, -1), complex(0, 1)}, complex(5, 7), complex(1, -5)},
		{"from the left", []complex64{1e20, 1, -1e20}, []complex64{1e10, 1, 1e10}, 0, 0},
		{"sums rounded to 32 bits", []complex64{4096, 1, 1}, []complex64{4096, 1, 1}, 16777216, 16777216},
		{"products narrowed before they are added", []complex64{-1 - 0x1p-11, 1 + 0x1p-12}, []complex64{1, 1 + 0x1p-12}, 0, 0},
		{"zeros with signs", []complex64{complex(minusZero, 0)}, []complex64{complex(1, minusZero)}, 0, 0},
		{"products too large for 32 bits", []complex64{1e30, 1e30}, []complex64{1e30, -1e30}, complex(nan, 0), complex(nan, 0)},
		{"a not-a-number", []complex64{complex(nan, 1)}, []complex64{1}, complex(nan, nan), complex(nan, nan)},
		{"the most numbers", repeated[complex64](complex(0, 2), 256), repeated[complex64](complex(1, 0.5), 256), complex(-256, 512), complex(256, -512)},
	}
	for _, r := range rows {
		dot, ok := impl.DotComplex(r.a, r.b)
		wantComplexSum(t, "DotComplex: "+r.what, dot, ok, r.dot)
		conjugate, ok := impl.DotConjugate(r.a, r.b)
		wantComplexSum(t, "DotConjugate: "+r.what, conjugate, ok, r.conjugate)
	}
	one, many := []complex64{1}, repeated[complex64](1, 257)
	for _, pair := range [][2][]complex64{{one, nil}, {nil, one}, {one, {1, 1}}, {many, many}, {many, many[:256]}, {many[:256], many}} {
		dot, ok := impl.DotComplex(pair[0], pair[1])
		wantNone(t, "DotComplex of other lengths or too many", dot, ok)
		conjugate, ok := impl.DotConjugate(pair[0], pair[1])
		wantNone(t, "DotConjugate of other lengths or too many", conjugate, ok)
	}
}

func TestDotsAreSumsOfProducts(t *testing.T) {
	a, b := spreadComplex(256), spreadComplex(300)[44:]
	var dot, conjugate complex64
	for i := range a {
		dot += impl.MulComplex(a[i], b[i])
		conjugate += impl.MulComplex(impl.ConjugateOf(a[i]), b[i])
		got, ok := impl.DotComplex(a[:i+1], b[:i+1])
		wantComplexSum(t, "DotComplex of a spread", got, ok, dot)
		got, ok = impl.DotConjugate(a[:i+1], b[:i+1])
		wantComplexSum(t, "DotConjugate of a spread", got, ok, conjugate)
	}
}

func TestPowersOf(t *testing.T) {
	rows := []struct {
		what string
		list []complex64
		want float32
	}{
		{"no numbers", nil, 0},
		{"numbers", []complex64{complex(3, 4), 1}, 26},
		{"sums in 64 bits", []complex64{4096, 1, complex(0, 1)}, 16777218},
		{"powers in 64 bits", repeated[complex64](1+0x1p-12, 3), 3 + 0x3p-11 + 0x1p-22},
		{"from the left", []complex64{0x1p27, 1, 1}, 0x1p54},
		{"a sum of 64-bit numbers from the left", append([]complex64{0x1p27}, repeated[complex64](1, 255)...), 0x1p54},
		{"powers below 32 bits", repeated[complex64](0x1p-76, 8), leastNumber},
		{"powers beyond 32 bits", []complex64{1e30}, inf},
		{"zeros with signs", []complex64{complex(minusZero, minusZero)}, 0},
		{"an infinity", []complex64{complex(1, minusInf)}, inf},
		{"a not-a-number", []complex64{1, complex(inf, nan)}, nan},
		{"the most numbers", repeated[complex64](complex(1, 2), 256), 1280},
	}
	for _, r := range rows {
		got, ok := impl.PowersOf(r.list)
		wantSum(t, "PowersOf: "+r.what, got, ok, r.want)
	}
	got, ok := impl.PowersOf(repeated[complex64](1, 257))
	wantNone(t, "PowersOf of too many", got, ok)
}

// TestPowersOfOrder tells sums from the left from others: behind 2 to the power of 53, 1 is lost in 64 bits.
func TestPowersOfOrder(t *testing.T) {
	big, small := complex64(complex(0x1p26, 0x1p26)), complex64(1)
	tie := complex64(0x1p15) // half of a unit of the 32-bit number 2 to the power of 54 is 2 to the power of 30
	lost, ok := impl.PowersOf([]complex64{big, big, small, tie})
	wantSum(t, "PowersOf with a lost 1", lost, ok, 0x1p54)
	kept, ok := impl.PowersOf([]complex64{tie, small, small, small, small, big, big})
	wantSum(t, "PowersOf with kept ones", kept, ok, 0x1p54+0x1p31)
}
