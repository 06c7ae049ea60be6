package tests

import (
	"fmt"
	"math"
	"strings"
	"testing"

	"loop.example/g01318/impl"
)

// call is one function with the arguments that it is given in the test of the first promise.
type call struct {
	name string
	run  func() []any
}

// on returns the calls of a function with each of these arguments.
func on[A, R any](name string, list []A, f func(A) R) []call {
	var calls []call
	for _, x := range list {
		calls = append(calls, call{name, func() []any { return []any{f(x)} }})
	}
	return calls
}

// onto is the same for functions that can fail.
func onto[A, R any](name string, list []A, f func(A) (R, bool)) []call {
	var calls []call
	for _, x := range list {
		calls = append(calls, call{name, func() []any { r, ok := f(x); return []any{r, ok} }})
	}
	return calls
}

// pair is a pair of arguments.
type pair[A any] struct{ one, two A }

func pairsOf[A any](list []A) []pair[A] {
	var pairs []pair[A]
	for _, x := range list {
		for _, y := range list {
			pairs = append(pairs, pair[A]{x, y})
		}
	}
	return pairs
}

func split[A, R any](f func(a, b A) R) func(pair[A]) R {
	return func(p pair[A]) R { return f(p.one, p.two) }
}

func splitOk[A, R any](f func(a, b A) (R, bool)) func(pair[A]) (R, bool) {
	return func(p pair[A]) (R, bool) { return f(p.one, p.two) }
}

func complexSpecials() []complex64 {
	var list []complex64
	for i, x := range specials() {
		list = append(list, complex(x, fewSpecials()[i%10]), complex(fewSpecials()[(i*3+1)%10], x))
	}
	return list
}

func wideSpecials() []float64 {
	list := []float64{5e-324, -5e-324, 0x1p-150, 0x1p52, -0x1p52, 0x1p52 - 0.5, 0x1p63, -0x1p63, 0x1p64, 1e300, -1e300, math.MaxFloat64}
	for _, x := range specials() {
		list = append(list, float64(x))
	}
	return list
}

func strange() []string {
	return []string{
		"", ",", "none", "none,", "3f800000", "3f800000,c0000000", "3f80000000000000", "7fc000007fc00000,ffc0000000000000",
		"0", "-0", "1,2,3", "-1000000000000000", "99999999999999999999", "ring", "abcdefghi", "\xff\xfe", "\x00", "\u00e9\u4e2d",
		strings.Repeat(",", 70000), strings.Repeat("1,", 70000), strings.Repeat("3f800000,", 256), strings.Repeat("\xff", 70000),
	}
}

func integers() []int64 {
	return []int64{0, 1, -1, 64, 65002, 65003, 0x7f800001, 4294967295, 4294967296, 1000000000000000, 1000000000000001, -1000000000000001, math.MaxInt64, math.MinInt64}
}

func lists[A any](few []A) [][]A {
	return [][]A{nil, {}, few[:1], few[:3], few, repeated(few[1], 256), repeated(few[2], 257), repeated(few[0], 5000)}
}

func callsOnNumbers() []call {
	one, two := specials(), pairsOf(specials())
	calls := on("SameNumber", two, split(impl.SameNumber))
	calls = append(calls, on("IsFinite", one, impl.IsFinite)...)
	calls = append(calls, on("BitsOf", one, impl.BitsOf)...)
	calls = append(calls, onto("FromBits", integers(), impl.FromBits)...)
	calls = append(calls, on("NarrowNumber", wideSpecials(), impl.NarrowNumber)...)
	calls = append(calls, on("IsSubnormal", one, impl.IsSubnormal)...)
	calls = append(calls, on("FlushNumber", one, impl.FlushNumber)...)
	calls = append(calls, on("PhasorOf", wideSpecials(), impl.PhasorOf)...)
	calls = append(calls, on("SineTurns", one, impl.SineTurns)...)
	calls = append(calls, on("AngleTurns", two, split(impl.AngleTurns))...)
	calls = append(calls, onto("TenthsOf", one, impl.TenthsOf)...)
	calls = append(calls, on("RootNumber", one, impl.RootNumber)...)
	calls = append(calls, on("ExpNumber", one, impl.ExpNumber)...)
	calls = append(calls, on("LogNumber", one, impl.LogNumber)...)
	for _, x := range complexSpecials() {
		calls = append(calls, on("ScaleComplex", one, func(by float32) complex64 { return impl.ScaleComplex(x, by) })...)
	}
	for _, x := range wideSpecials() {
		calls = append(calls, on("NarrowComplex", wideSpecials(), func(y float64) complex64 { return impl.NarrowComplex(complex(x, y)) })...)
	}
	return calls
}

func callsOnComplex() []call {
	one, two := complexSpecials(), pairsOf(complexSpecials())
	calls := on("SameComplex", two, split(impl.SameComplex))
	calls = append(calls, on("IsFiniteComplex", one, impl.IsFiniteComplex)...)
	calls = append(calls, on("MulComplex", two, split(impl.MulComplex))...)
	calls = append(calls, on("QuotientOf", two, split(impl.QuotientOf))...)
	calls = append(calls, on("ConjugateOf", one, impl.ConjugateOf)...)
	calls = append(calls, on("PowerOf", one, impl.PowerOf)...)
	calls = append(calls, on("LongOf", one, impl.LongOf)...)
	return append(calls, on("AngleOf", one, impl.AngleOf)...)
}

func callsOnLists() []call {
	numbers, pairs := lists(specials()), lists(complexSpecials())
	calls := onto("SumNumbers", numbers, impl.SumNumbers)
	calls = append(calls, onto("DotNumbers", pairsOf(numbers), splitOk(impl.DotNumbers))...)
	calls = append(calls, onto("NumbersText", numbers, impl.NumbersText)...)
	calls = append(calls, onto("SumComplex", pairs, impl.SumComplex)...)
	calls = append(calls, onto("DotComplex", pairsOf(pairs), splitOk(impl.DotComplex))...)
	calls = append(calls, onto("DotConjugate", pairsOf(pairs), splitOk(impl.DotConjugate))...)
	calls = append(calls, onto("PowersOf", pairs, impl.PowersOf)...)
	calls = append(calls, onto("ComplexText", pairs, impl.ComplexText)...)
	return append(calls, onto("ListText", lists(integers()), impl.ListText)...)
}

func callsOnTexts() []call {
	calls := onto("ReadNumbers", strange(), impl.ReadNumbers)
	calls = append(calls, onto("ReadComplex", strange(), impl.ReadComplex)...)
	calls = append(calls, onto("ReadList", strange(), impl.ReadList)...)
	calls = append(calls, onto("ReadDecimal", strange(), impl.ReadDecimal)...)
	calls = append(calls, on("IsName", strange(), impl.IsName)...)
	calls = append(calls, on("Decimal", integers(), impl.Decimal)...)
	for _, start := range integers() {
		calls = append(calls, onto("CheckOf", strange(), func(s string) (int64, bool) { return impl.CheckOf(start, s) })...)
	}
	return calls
}

// wantAgain makes the calls forwards and backwards, and wants the same results.
func wantAgain(t *testing.T, calls []call) {
	t.Helper()
	first := make([]string, len(calls))
	for i, c := range calls {
		first[i] = fmt.Sprint(c.run()...)
	}
	for i := len(calls) - 1; i >= 0; i-- {
		if again := fmt.Sprint(calls[i].run()...); again != first[i] {
			t.Errorf("%s: got %s, and then %s", calls[i].name, first[i], again)
		}
	}
}

// TestResultsDependOnArgumentsOnly calls every function of chapter 1 with whatever there is.
func TestResultsDependOnArgumentsOnly(t *testing.T) {
	wantAgain(t, append(append(callsOnNumbers(), callsOnComplex()...), append(callsOnLists(), callsOnTexts()...)...))
}

// TestNotANumbersAreOneValue holds that not-a-numbers with other bits make no other result.
func TestNotANumbersAreOneValue(t *testing.T) {
	a, b := nan, otherNaN
	wantNumber(t, "SineTurns", impl.SineTurns(a), impl.SineTurns(b))
	wantNumber(t, "ExpNumber", impl.ExpNumber(a), impl.ExpNumber(b))
	wantNumber(t, "LogNumber", impl.LogNumber(a), impl.LogNumber(b))
	wantNumber(t, "FlushNumber", impl.FlushNumber(a), impl.FlushNumber(b))
	if impl.BitsOf(a) != impl.BitsOf(b) || impl.BitsOf(-a) != impl.BitsOf(b) {
		t.Error("BitsOf tells not-a-numbers apart")
	}
	one, _ := impl.NumbersText([]float32{a, -a})
	two, _ := impl.NumbersText([]float32{b, -b})
	if one != two {
		t.Errorf("NumbersText tells not-a-numbers apart: %s and %s", one, two)
	}
}

// roomy returns the list as the beginning of a longer one.
func roomy[A any](list []A, spare A) []A {
	whole := append(append(make([]A, 0, len(list)+3), list...), spare, spare, spare)
	return whole[:len(list)]
}

// wantUntouched checks a list and the memory behind it.
func wantUntouched[A any](t *testing.T, what string, list []A, same func(a, b A) bool, was []A) {
	t.Helper()
	for i, x := range list[:cap(list)] {
		if i >= len(was) || !same(x, was[i]) {
			t.Errorf("%s changed its argument at the index %d", what, i)
		}
	}
}

func sameBits(a, b float32) bool { return math.Float32bits(a) == math.Float32bits(b) }

func sameParts(a, b complex64) bool {
	return sameBits(real(a), real(b)) && sameBits(imag(a), imag(b))
}

func sameIntegers(a, b int64) bool { return a == b }

func TestArgumentsStay(t *testing.T) {
	numbers := roomy([]float32{3, nan, minusZero, 1, leastNumber}, 77)
	was := append([]float32(nil), numbers[:cap(numbers)]...)
	impl.SumNumbers(numbers)
	impl.DotNumbers(numbers, numbers)
	impl.NumbersText(numbers)
	wantUntouched(t, "a function of numbers", numbers, sameBits, was)
	pairs := roomy([]complex64{complex(3, -1), complex(nan, minusZero), 1}, 77)
	were := append([]complex64(nil), pairs[:cap(pairs)]...)
	others := roomy([]complex64{complex(0, 2), 5, complex(minusInf, 1)}, 88)
	wereOthers := append([]complex64(nil), others[:cap(others)]...)
	impl.SumComplex(pairs)
	impl.DotComplex(pairs, others)
	impl.DotConjugate(pairs, others)
	impl.PowersOf(pairs)
	impl.ComplexText(pairs)
	wantUntouched(t, "a function of complex numbers", pairs, sameParts, were)
	wantUntouched(t, "a function of complex numbers", others, sameParts, wereOthers)
	integers := roomy([]int64{3, -1, 2}, 77)
	wereIntegers := append([]int64(nil), integers[:cap(integers)]...)
	impl.ListText(integers)
	wantUntouched(t, "ListText", integers, sameIntegers, wereIntegers)
}

// wantOwnMemory reads a text twice and overwrites the first list, with what is behind it.
func wantOwnMemory[A any](t *testing.T, what, text string, read func(string) ([]A, bool), write func([]A) (string, bool)) {
	t.Helper()
	first, _ := read(text)
	second, _ := read(text)
	var zero A
	for i := range first[:cap(first)] {
		first[:cap(first)][i] = zero
	}
	if again, ok := write(second); !ok || again != text {
		t.Errorf("%s: a list shares memory with another one", what)
	}
	third, _ := read(text)
	if again, ok := write(third); !ok || again != text {
		t.Errorf("%s: a list is kept", what)
	}
}

func TestResultsAreNew(t *testing.T) {
	wantOwnMemory(t, "ReadNumbers", "3f800000,c0000000,7fc00000", impl.ReadNumbers, impl.NumbersText)
	wantOwnMemory(t, "ReadComplex", "3f80000040000000,c00000007fc00000", impl.ReadComplex, impl.ComplexText)
	wantOwnMemory(t, "ReadList", "5,4,-3,2", impl.ReadList, impl.ListText)
}
