package tests

import (
	"math"
	"math/big"
	"testing"

	"loop.example/g01318/impl"
)

func TestSameNumber(t *testing.T) {
	all := specials()
	for i, a := range all {
		for j, b := range all {
			want := told(a) == told(b)
			if got := impl.SameNumber(a, b); got != want {
				t.Errorf("SameNumber(%v, %v), numbers %d and %d: got %v, want %v", a, b, i, j, got, want)
			}
		}
	}
	wantBool(t, "zeros with other signs", impl.SameNumber(0, minusZero), false)
	wantBool(t, "two not-a-numbers", impl.SameNumber(nan, otherNaN), true)
	wantBool(t, "a not-a-number and 0", impl.SameNumber(nan, 0), false)
}

func TestSameComplex(t *testing.T) {
	all := fewSpecials()
	for _, a := range all {
		for _, b := range all {
			for _, c := range all {
				for _, d := range all {
					want := told(a) == told(c) && told(b) == told(d)
					if got := impl.SameComplex(complex(a, b), complex(c, d)); got != want {
						t.Fatalf("SameComplex(%v + %v i, %v + %v i): got %v, want %v", a, b, c, d, got, want)
					}
				}
			}
		}
	}
	wantBool(t, "not-a-numbers", impl.SameComplex(complex(nan, 1), complex(otherNaN, 1)), true)
}

func TestIsFinite(t *testing.T) {
	for _, x := range specials() {
		want := !math.IsNaN(float64(x)) && !math.IsInf(float64(x), 0)
		wantBool(t, "IsFinite of "+impl.Decimal(int64(told(x))), impl.IsFinite(x), want)
		for _, y := range specials() {
			both := want && !math.IsNaN(float64(y)) && !math.IsInf(float64(y), 0)
			if got := impl.IsFiniteComplex(complex(x, y)); got != both {
				t.Errorf("IsFiniteComplex(%v + %v i): got %v", x, y, got)
			}
		}
	}
	wantBool(t, "the greatest number", impl.IsFinite(mostNumber), true)
	wantBool(t, "infinity", impl.IsFinite(inf), false)
	wantBool(t, "minus infinity", impl.IsFinite(minusInf), false)
	wantBool(t, "a not-a-number", impl.IsFinite(otherNaN), false)
}

func TestBitsOf(t *testing.T) {
	rows := []struct {
		x    float32
		bits int64
	}{
		{0, 0}, {minusZero, 2147483648}, {1, 1065353216}, {-2, 3221225472},
		{leastNumber, 1}, {mostSubnorm, 8388607}, {leastNormal, 8388608},
		{mostNumber, 2139095039}, {inf, 2139095040}, {minusInf, 4286578688},
		{nan, 2143289344}, {otherNaN, 2143289344},
		{number(0x7f800001), 2143289344}, {number(0xffffffff), 2143289344},
	}
	for _, r := range rows {
		if got := impl.BitsOf(r.x); got != r.bits {
			t.Errorf("BitsOf(%v): got %d, want %d", r.x, got, r.bits)
		}
	}
}

func TestFromBits(t *testing.T) {
	for _, bits := range []uint32{0, 1, 0x007fffff, 0x00800000, 0x3f800000, 0x7f7fffff, 0x7f800000, 0x80000000, 0x80000001, 0xc0000000, 0xff800000} {
		x, ok := impl.FromBits(int64(bits))
		wantSum(t, "FromBits", x, ok, number(bits))
	}
	for _, bits := range []int64{0x7f800001, 0x7fc00000, 0x7fffffff, 0xff800001, 0xffc00000, 4294967295} {
		x, ok := impl.FromBits(bits)
		wantSum(t, "FromBits of a not-a-number", x, ok, nan)
	}
	for _, bits := range []int64{-1, 4294967296, 4294967296 + 0x3f800000, math.MaxInt64, math.MinInt64} {
		x, ok := impl.FromBits(bits)
		wantNone(t, "FromBits of "+impl.Decimal(bits), x, ok)
	}
}

func TestNarrowNumber(t *testing.T) {
	rows := []struct {
		x    float64
		want float32
	}{
		{0, 0}, {math.Copysign(0, -1), minusZero}, {0.5, 0.5}, {-3, -3},
		{1 + 0x1p-24, 1}, {1 + 0x1p-24 + 0x1p-50, afterOne}, {1 + 0x3p-24, number(0x3f800002)},
		{-1 - 0x1p-24, -1}, {1 - 0x1p-25, 1}, {1 - 0x1p-24, beforeOne},
		{0x1p-149, leastNumber}, {0x1p-150, 0}, {-0x1p-150, minusZero},
		{0x1p-150 + 0x1p-190, leastNumber}, {0x3p-150, number(2)}, {0x1p-126 - 0x1p-150, leastNormal},
		{0x1p-126 - 0x1p-149, mostSubnorm}, {5e-324, 0}, {-5e-324, minusZero},
		{0x1.fffffep127, mostNumber}, {0x1.ffffffp127, inf}, {0x1.fffffefffffffp127, mostNumber},
		{-0x1.ffffffp127, minusInf}, {1e300, inf}, {-1e300, minusInf},
		{math.Inf(1), inf}, {math.Inf(-1), minusInf}, {math.NaN(), nan},
	}
	for _, r := range rows {
		wantNumber(t, "NarrowNumber", impl.NarrowNumber(r.x), r.want)
		wantComplex(t, "NarrowComplex, real", impl.NarrowComplex(complex(r.x, 2)), complex(r.want, 2))
		wantComplex(t, "NarrowComplex, imaginary", impl.NarrowComplex(complex(0.5, r.x)), complex(0.5, r.want))
	}
	for _, x := range spread(2000) {
		if x-x != 0 {
			continue
		}
		wide := float64(x) * 1.00000001
		want, _ := big.NewFloat(wide).Float32()
		wantNumber(t, "NarrowNumber of a spread", impl.NarrowNumber(wide), want)
	}
}

func TestSubnormals(t *testing.T) {
	rows := []struct {
		x, flushed float32
		is         bool
	}{
		{0, 0, false}, {minusZero, minusZero, false},
		{leastNumber, 0, true}, {-leastNumber, minusZero, true},
		{mostSubnorm, 0, true}, {-mostSubnorm, minusZero, true},
		{leastNormal, leastNormal, false}, {-leastNormal, -leastNormal, false},
		{1e-40, 0, true}, {1, 1, false}, {-1e-30, -1e-30, false}, {mostNumber, mostNumber, false},
		{inf, inf, false}, {minusInf, minusInf, false}, {nan, nan, false}, {otherNaN, nan, false},
	}
	for _, r := range rows {
		wantBool(t, "IsSubnormal", impl.IsSubnormal(r.x), r.is)
		wantNumber(t, "FlushNumber", impl.FlushNumber(r.x), r.flushed)
	}
}

// exactPart returns a b + sign c d, rounded to 64 bits and then narrowed; the products of 32-bit numbers are exact here.
func exactPart(a, b, sign, c, d float32) float32 {
	exact := func(x float32) *big.Float { return new(big.Float).SetPrec(600).SetFloat64(float64(x)) }
	one := new(big.Float).SetPrec(600).Mul(exact(a), exact(b))
	two := new(big.Float).SetPrec(600).Mul(exact(c), exact(d))
	two.Mul(two, exact(sign))
	wide, _ := new(big.Float).SetPrec(600).Add(one, two).Float64()
	return float32(wide)
}

func TestMulComplexIsExactInside(t *testing.T) {
	list := spreadComplex(1500)
	for i, x := range list {
		y := list[(7*i+3)%len(list)]
		if x-x != 0 || y-y != 0 || x == 0 || y == 0 {
			continue
		}
		a, b, c, d := real(x), imag(x), real(y), imag(y)
		wantComplex(t, "MulComplex of a spread", impl.MulComplex(x, y), complex(exactPart(a, c, -1, b, d), exactPart(a, d, 1, b, c)))
	}
	wantComplex(t, "the example", impl.MulComplex(complex(1, 2), complex(3, -1)), complex(5, 5))
	near := impl.MulComplex(complex(1+0x1p-12, 1), complex(1+0x1p-12, 1+0x1p-11))
	wantNumber(t, "a difference that 32-bit products lose", real(near), 0x1p-24)
	wantComplex(t, "products beyond 32 bits that cancel", impl.MulComplex(complex(1e30, 1e30), complex(1e30, 1e30)), complex(0, inf))
	wantComplex(t, "a subnormal product", impl.MulComplex(complex(leastNumber, 0), complex(0.5, 1)), complex(0, leastNumber))
}

// TestProductsOfSmallIntegers holds the second promise.
func TestProductsOfSmallIntegers(t *testing.T) {
	for a := -9; a <= 9; a++ {
		for b := -9; b <= 9; b++ {
			for c := -9; c <= 9; c++ {
				for d := -9; d <= 9; d++ {
					got := impl.MulComplex(complex(float32(a), float32(b)), complex(float32(c), float32(d)))
					if got != complex(float32(a*c-b*d), float32(a*d+b*c)) {
						t.Fatalf("(%d + %d i) (%d + %d i): got %v", a, b, c, d, got)
					}
				}
			}
		}
	}
	for a := int64(-2048); a <= 2048; a += 89 {
		for b := int64(-2047); b <= 2047; b += 91 {
			x, y := complex(float32(a), float32(b)), complex(float32(b-3), float32(a+1))
			want := complex(float32(a*(b-3)-b*(a+1)), float32(a*(a+1)+b*(b-3)))
			wantComplex(t, "a product of integers", impl.MulComplex(x, y), want)
			wantNumber(t, "a power of integers", impl.PowerOf(x), float32(a*a+b*b))
			wantComplex(t, "a scaled integer", impl.ScaleComplex(x, float32(b)), complex(float32(a*b), float32(b*b)))
		}
	}
}

func TestProductsOfSpecials(t *testing.T) {
	all := fewSpecials()
	for _, a := range all {
		for _, b := range all {
			for _, c := range all {
				for _, d := range all {
					checkProducts(t, a, b, c, d)
				}
			}
		}
	}
}

// checkProducts needs no care with fused operations: products of 32-bit numbers are exact in 64 bits.
func checkProducts(t *testing.T, a, b, c, d float32) {
	t.Helper()
	e, f, g, h := float64(a), float64(b), float64(c), float64(d)
	x, y := complex(a, b), complex(c, d)
	wantComplex(t, "MulComplex", impl.MulComplex(x, y), complex(float32(e*g-f*h), float32(e*h+f*g)))
	power := g*g + h*h
	wantComplex(t, "QuotientOf", impl.QuotientOf(x, y), complex(float32((e*g+f*h)/power), float32((f*g-e*h)/power)))
	wantComplex(t, "ScaleComplex", impl.ScaleComplex(x, c), complex(float32(e*g), float32(f*g)))
	wantComplex(t, "ConjugateOf", impl.ConjugateOf(x), complex(a, float32(math.Copysign(1, -f))*float32(math.Abs(f))))
	wantNumber(t, "PowerOf", impl.PowerOf(y), float32(power))
	wantNumber(t, "LongOf", impl.LongOf(y), float32(math.Sqrt(power)))
}

func TestSignsOfZeros(t *testing.T) {
	wantComplex(t, "1 times -0", impl.MulComplex(1, complex(minusZero, minusZero)), complex(0, minusZero))
	wantComplex(t, "-0 times 1", impl.MulComplex(complex(minusZero, minusZero), 1), complex(0, minusZero))
	wantComplex(t, "0 times -1", impl.MulComplex(0, complex(-1, -1)), complex(0, minusZero))
	wantComplex(t, "the conjugate of 0", impl.ConjugateOf(0), complex(0, minusZero))
	wantComplex(t, "the conjugate of -0", impl.ConjugateOf(complex(minusZero, minusZero)), complex(minusZero, 0))
	wantComplex(t, "0 scaled by -1", impl.ScaleComplex(complex(0, minusZero), -1), complex(minusZero, 0))
	wantComplex(t, "0 divided by -1", impl.QuotientOf(0, -1), complex(0, minusZero))
}

func TestScaleComplex(t *testing.T) {
	wantComplex(t, "1 + 2 i by a half", impl.ScaleComplex(complex(1, 2), 0.5), complex(0.5, 1))
	wantComplex(t, "by infinity", impl.ScaleComplex(complex(1, 0), inf), complex(inf, nan))
	wantComplex(t, "rounded", impl.ScaleComplex(complex(afterOne, -afterOne), afterOne), complex(number(0x3f800002), number(0xbf800002)))
	wantComplex(t, "subnormal, tied", impl.ScaleComplex(complex(leastNumber, -number(3)), 0.5), complex(0, -number(2)))
	wantComplex(t, "conjugate", impl.ConjugateOf(complex(1, 2)), complex(1, -2))
}

func TestPowers(t *testing.T) {
	wantNumber(t, "the power of 3 + 4 i", impl.PowerOf(complex(3, 4)), 25)
	wantNumber(t, "the length of 3 + 4 i", impl.LongOf(complex(3, 4)), 5)
	wantNumber(t, "a power beyond 32 bits", impl.PowerOf(1e30), inf)
	wantNumber(t, "the length of 1e30", impl.LongOf(1e30), 1e30)
	wantNumber(t, "a power below 32 bits", impl.PowerOf(complex(0, 1e-30)), 0)
	wantNumber(t, "the length of 1e-30 i", impl.LongOf(complex(0, -1e-30)), 1e-30)
	wantNumber(t, "the length of the least number", impl.LongOf(complex(leastNumber, 0)), leastNumber)
	wantNumber(t, "the length of the greatest numbers", impl.LongOf(complex(mostNumber, mostNumber)), inf)
	wantNumber(t, "the length of the greatest number", impl.LongOf(complex(mostNumber, 0)), mostNumber)
	wantNumber(t, "the length of 1 + i", impl.LongOf(complex(1, 1)), number(0x3fb504f3))
	wantNumber(t, "the length of -0", impl.LongOf(complex(minusZero, minusZero)), 0)
	wantNumber(t, "a power that 32-bit squares miss", impl.PowerOf(complex(1+0x1p-12, 0x1p-12)), 1+0x1p-11+0x1p-23)
	wantNumber(t, "the length of infinity", impl.LongOf(complex(minusInf, 1)), inf)
	wantNumber(t, "the length of a not-a-number", impl.LongOf(complex(inf, nan)), nan)
	for _, x := range spreadComplex(1500) {
		if x-x == 0 && x != 0 {
			wantNumber(t, "PowerOf of a spread", impl.PowerOf(x), exactPart(real(x), real(x), 1, imag(x), imag(x)))
		}
	}
}

func TestQuotientOf(t *testing.T) {
	wantComplex(t, "the example", impl.QuotientOf(complex(0, 4), 2), complex(0, 2))
	wantComplex(t, "5 + 5 i and 3 - i", impl.QuotientOf(complex(5, 5), complex(3, -1)), complex(1, 2))
	wantComplex(t, "1 and i", impl.QuotientOf(1, complex(0, 1)), complex(0, -1))
	wantComplex(t, "1 and 3", impl.QuotientOf(1, 3), complex(number(0x3eaaaaab), 0))
	wantComplex(t, "a small and a small one", impl.QuotientOf(1e-30, 1e-30), complex(1, 0))
	wantComplex(t, "a large and a large one", impl.QuotientOf(complex(1e30, 1e30), complex(1e30, 0)), complex(1, 1))
	wantComplex(t, "the least numbers", impl.QuotientOf(complex(0, leastNumber), complex(leastNumber, 0)), complex(0, 1))
	wantComplex(t, "1 and 0", impl.QuotientOf(1, 0), complex(nan, nan))
	wantComplex(t, "0 and 0", impl.QuotientOf(0, 0), complex(nan, nan))
	wantComplex(t, "infinity and 0", impl.QuotientOf(complex(inf, inf), 0), complex(nan, nan))
	wantComplex(t, "1 and infinity", impl.QuotientOf(1, complex(inf, 1)), complex(nan, nan))
	near := impl.QuotientOf(complex(1+0x1p-12, 1), complex(1+0x1p-12, -1-0x1p-11))
	wantComplex(t, "a quotient that 32-bit products miss", near, complex(number(0x32ffd006), number(0x3f7ff001)))
}

func TestRootNumber(t *testing.T) {
	rows := []struct{ x, want float32 }{
		{9, 3}, {2, number(0x3fb504f3)}, {0.25, 0.5}, {0, 0}, {minusZero, minusZero},
		{-1, nan}, {-leastNumber, nan}, {leastNumber, number(0x1a3504f3)}, {number(4), number(0x1ab504f3)},
		{mostNumber, number(0x5f7fffff)}, {inf, inf}, {minusInf, nan}, {nan, nan}, {beforeOne, beforeOne}, {afterOne, 1},
	}
	for _, r := range rows {
		wantNumber(t, "RootNumber", impl.RootNumber(r.x), r.want)
	}
}
