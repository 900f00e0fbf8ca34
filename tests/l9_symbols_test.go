package tests

import (
	"math"
	"slices"
	"strconv"
	"strings"
	"testing"

	"loop.example/softwareradio/impl"
)

func orders() []int {
	return []int{1, 2, 4}
}

// notOrders are numbers other than the orders; some of them look like an order if only their last digits or their absolute values are kept.
func notOrders() []int {
	return []int{
		0, 3, 5, 6, 7, 8, 9, 10, 12, 16, 20, 32, 64, 128, 255, 256, 257, 258, 260, 512, 1024, 65537, -1, -2, -3, -4, -5, -8, -16, -256, -1024,
		1 << 31, 1 << 32, 1<<32 + 1, 1<<32 + 2, 1<<32 + 4, -1 << 32, -1<<32 + 1, -1<<32 + 2, -1<<32 + 4, 1 << 62,
		math.MaxInt, math.MaxInt - 1, math.MinInt, math.MinInt + 1, math.MinInt + 2, math.MinInt + 4,
	}
}

// notTurns are numbers of quarter turns below 0 and above 3; some of them look valid if only their last digits are kept.
func notTurns() []int {
	return []int{
		-1, -2, -3, -4, -5, -7, -8, -256, -1024, 4, 5, 6, 7, 8, 9, 16, 100, 255, 256, 257, 258, 259, 1024, 65537,
		1 << 31, 1 << 32, 1<<32 + 1, 1<<32 + 3, -1 << 32, -1<<32 + 1, 1 << 62, math.MaxInt, math.MaxInt - 1, math.MinInt, math.MinInt + 1, math.MinInt + 3,
	}
}

// components are those on and beside every threshold and every bound, and some between.
func components() []int {
	return []int{
		-3, -2, -1, 0, 1, 2, 3, -4, 4, -5, 5, -6, 6, -7, 7, -10, 10, -127, 127, -128, 128, -255, 255, 256, -256, 1000, -1000,
		-32768, 32767, 65535, -65536, 65536, 65537, -65537, 99998, -99998, 99999, -99999, 100000, -100000,
	}
}

// farComponents are beyond MaxLevel; some of them look valid if only their last digits or their absolute values are kept.
func farComponents() []int {
	return []int{
		100001, -100001, 100002, -100002, 131072, -131072, 131073, 200000, -200000, 1000000, -1000000,
		1 << 31, -1 << 31, 1 << 32, -1 << 32, 1<<32 + 1, -1<<32 - 1, 1<<32 - 1, 1<<33 + 3, 1 << 62, -1 << 62,
		math.MaxInt, math.MaxInt - 1, math.MinInt, math.MinInt + 1, math.MinInt + 2,
	}
}

// signalLengths are no samples, few, some, and those next to MaxSignal.
func signalLengths() []int {
	return []int{0, 1, 2, 3, 4, 5, 8, 15, 16, 17, 31, 32, 33, 63, 64, 65, 100, 127, 128, 129, 200, 254, 255, 256}
}

// mixedSignal has components in -level..level.
func mixedSignal(seed int, length int, level int) []impl.Sample {
	list := make([]impl.Sample, length)
	for k := range list {
		list[k].I = int(mixed(seed, 2*k)%uint64(2*level+1)) - level
		list[k].Q = int(mixed(seed, 2*k+1)%uint64(2*level+1)) - level
	}
	return list
}

// signalsOf are signals of one length: zeros, the bounds, and mixed ones with few and with many levels.
func signalsOf(length int) [][]impl.Sample {
	var signals [][]impl.Sample
	for _, sample := range []impl.Sample{{}, {I: 100000, Q: 100000}, {I: -100000, Q: 100000}, {I: 100000, Q: -100000}, {I: -100000, Q: -100000}, {I: 1}, {Q: -1}} {
		signals = append(signals, repeated(sample, length))
	}
	for seed, level := range []int{1, 2, 3, 4, 8, 1000, 99999, 100000} {
		signals = append(signals, mixedSignal(seed+length, length, level))
	}
	return signals
}

func eachSignal(test func(list []impl.Sample)) {
	for _, length := range signalLengths() {
		for _, list := range signalsOf(length) {
			test(list)
		}
	}
}

// eachMappable calls a test with every list of few bits and with lists of all other lengths that an order can map.
func eachMappable(test func(list []int, order int)) {
	for _, order := range orders() {
		for count := 0; count <= 12; count += order {
			for number := range 1 << count {
				test(digits(number, count), order)
			}
		}
		for count := range 257 {
			length := order * count
			test(repeated(0, length), order)
			test(repeated(1, length), order)
			for seed := range 4 {
				test(mixedBits(seed+count, length), order)
			}
		}
	}
}

// modelComponent returns the component that carries one bit or two, as the chapter lists them.
func modelComponent(list []int) int {
	text := ""
	for _, bit := range list {
		text += strconv.Itoa(bit)
	}
	return map[string]int{"0": -1, "1": 1, "00": -3, "01": -1, "11": 1, "10": 3}[text]
}

// modelMapped maps bits without the program.
func modelMapped(list []int, order int) []impl.Sample {
	var samples []impl.Sample
	for part := range slices.Chunk(list, order) {
		if order == 1 {
			samples = append(samples, impl.Sample{I: modelComponent(part)})
		} else {
			samples = append(samples, impl.Sample{I: modelComponent(part[:order/2]), Q: modelComponent(part[order/2:])})
		}
	}
	return samples
}

// modelDecision returns what a component carries. All components below -2 carry the same, and so do all above 1.
func modelDecision(component int, count int) []int {
	texts := map[int][]string{1: {"0", "0", "0", "0", "1", "1"}, 2: {"00", "01", "01", "01", "11", "10"}}
	var list []int
	for _, digit := range strings.Split(texts[count][min(max(component, -3), 2)+3], "") {
		bit, _ := strconv.Atoi(digit)
		list = append(list, bit)
	}
	return list
}

// modelSliced slices a signal without the program.
func modelSliced(list []impl.Sample, order int) []int {
	var bits []int
	for _, sample := range list {
		if order == 1 {
			bits = append(bits, modelDecision(sample.I, 1)...)
		} else {
			bits = append(bits, modelDecision(sample.I, order/2)...)
			bits = append(bits, modelDecision(sample.Q, order/2)...)
		}
	}
	return bits
}

// modelTurned turns a signal without the program, with the four turns written out.
func modelTurned(list []impl.Sample, q int) []impl.Sample {
	var turned []impl.Sample
	for _, sample := range list {
		i, q0 := sample.I, sample.Q
		turned = append(turned, []impl.Sample{{I: i, Q: q0}, {I: -q0, Q: i}, {I: -i, Q: -q0}, {I: q0, Q: -i}}[q])
	}
	return turned
}

func modelPower(list []impl.Sample) int {
	power := int64(0)
	for _, sample := range list {
		for _, component := range []int{sample.I, sample.Q} {
			power += int64(component) * int64(component)
		}
	}
	return int(power)
}

func wantSamples(t *testing.T, name string, got []impl.Sample, want []impl.Sample) {
	t.Helper()
	if !slices.Equal(got, want) {
		t.Fatalf("%s: got %v, want %v", name, got, want)
	}
}

func wantPower(t *testing.T, list []impl.Sample, want int) {
	t.Helper()
	if got := impl.SignalPower(list); got != want {
		t.Fatalf("%v has the power %d, want %d", list, got, want)
	}
}

func wantNotMapped(t *testing.T, list []int, order int) {
	t.Helper()
	if got := impl.MapBits(list, order); len(got) != 0 {
		t.Fatalf("%d numbers are mapped with the order %d: %v", len(list), order, got)
	}
}

func wantNotSliced(t *testing.T, list []impl.Sample, order int) {
	t.Helper()
	if got := impl.SliceBits(list, order); len(got) != 0 {
		t.Fatalf("%d samples are sliced with the order %d: %v", len(list), order, got)
	}
}

func wantNotTurned(t *testing.T, list []impl.Sample, q int) {
	t.Helper()
	if got := impl.TurnSamples(list, q); len(got) != 0 {
		t.Fatalf("%d samples are turned by %d quarter turns: %v", len(list), q, got)
	}
}

// wantRefusedSignal checks that a signal is invalid for all functions.
func wantRefusedSignal(t *testing.T, list []impl.Sample) {
	t.Helper()
	if impl.SignalValid(list) {
		t.Fatalf("%v is valid", list)
	}
	for _, order := range orders() {
		wantNotSliced(t, list, order)
	}
	for q := range 4 {
		wantNotTurned(t, list, q)
	}
	wantPower(t, list, -1)
}

func TestBoundsOfSignals(t *testing.T) {
	if impl.MaxLevel != 100000 || impl.MaxSignal != 256 {
		t.Fatal(impl.MaxLevel, impl.MaxSignal)
	}
}

// Promise 54.
func TestPartsOfSignalsAreValid(t *testing.T) {
	eachSignal(func(list []impl.Sample) {
		if !impl.SignalValid(list) {
			t.Fatalf("%v is invalid", list)
		}
		for cut := range list {
			if !impl.SignalValid(list[:cut]) || !impl.SignalValid(list[cut:]) || !impl.SignalValid(list[cut/2:cut]) {
				t.Fatalf("a part of %v, cut at %d, is invalid", list, cut)
			}
		}
	})
	if !impl.SignalValid(nil) || !impl.SignalValid([]impl.Sample{}) {
		t.Fatal("no samples are invalid")
	}
}

// Promise 54, with every place and with every kind of component beyond MaxLevel.
func TestSignalsAreBounded(t *testing.T) {
	for _, length := range signalLengths() {
		list := mixedSignal(length, length, impl.MaxLevel)
		for place := range list {
			for _, level := range []int{-100000, 100000, -99999, 99999} {
				if !impl.SignalValid(changed(list, place, impl.Sample{I: level, Q: list[place].Q})) || !impl.SignalValid(changed(list, place, impl.Sample{I: list[place].I, Q: level})) {
					t.Fatalf("%d samples with the component %d at place %d are invalid", length, level, place)
				}
			}
			for _, level := range []int{-100001, 100001} {
				wantRefusedSignal(t, changed(list, place, impl.Sample{I: level, Q: list[place].Q}))
				wantRefusedSignal(t, changed(list, place, impl.Sample{I: list[place].I, Q: level}))
			}
		}
	}
	for _, level := range farComponents() {
		for _, length := range []int{1, 2, 3, 100, 255, 256} {
			for _, place := range []int{0, length / 2, length - 1} {
				for _, other := range []int{0, 1, -100000, 100000, level} {
					wantRefusedSignal(t, changed(repeated(impl.Sample{}, length), place, impl.Sample{I: level, Q: other}))
					wantRefusedSignal(t, changed(repeated(impl.Sample{}, length), place, impl.Sample{I: other, Q: level}))
				}
			}
		}
	}
}

func TestSignalsHaveAtMostMaxSignalSamples(t *testing.T) {
	for length := range 257 {
		if !impl.SignalValid(repeated(impl.Sample{}, length)) || !impl.SignalValid(repeated(impl.Sample{I: -100000, Q: 100000}, length)) {
			t.Fatalf("%d samples are invalid", length)
		}
	}
	for _, length := range []int{257, 258, 259, 260, 300, 511, 512, 513, 1023, 1024, 1025, 4096, 65536} {
		wantRefusedSignal(t, repeated(impl.Sample{}, length))
		wantRefusedSignal(t, repeated(impl.Sample{I: 1, Q: -1}, length))
		wantRefusedSignal(t, mixedSignal(length, length, 3))
	}
}

func TestConstellations(t *testing.T) {
	for _, constellation := range []struct {
		order   int
		samples []impl.Sample
	}{
		{1, []impl.Sample{{I: -1}, {I: 1}}},
		{2, []impl.Sample{{I: -1, Q: -1}, {I: -1, Q: 1}, {I: 1, Q: -1}, {I: 1, Q: 1}}},
		{4, []impl.Sample{
			{I: -3, Q: -3}, {I: -3, Q: -1}, {I: -3, Q: 3}, {I: -3, Q: 1}, {I: -1, Q: -3}, {I: -1, Q: -1}, {I: -1, Q: 3}, {I: -1, Q: 1},
			{I: 3, Q: -3}, {I: 3, Q: -1}, {I: 3, Q: 3}, {I: 3, Q: 1}, {I: 1, Q: -3}, {I: 1, Q: -1}, {I: 1, Q: 3}, {I: 1, Q: 1},
		}},
	} {
		for number, sample := range constellation.samples {
			list := digits(number, constellation.order)
			wantSamples(t, "mapped", impl.MapBits(list, constellation.order), []impl.Sample{sample})
			wantInts(t, "sliced", impl.SliceBits([]impl.Sample{sample}, constellation.order), list)
		}
		if len(constellation.samples) != 1<<constellation.order {
			t.Fatalf("order %d has %d samples", constellation.order, len(constellation.samples))
		}
	}
}

// Every sample is where its bits are.
func TestEveryPlaceIsMapped(t *testing.T) {
	for _, order := range orders() {
		for _, length := range []int{1, 2, 3, 15, 16, 17, 32, 33, 64, 65, 255, 256} {
			for place := range length {
				for number := range 1 << order {
					list := mixedBits(length+number, order*length)
					copy(list[order*place:], digits(number, order))
					samples := impl.MapBits(list, order)
					if len(samples) != length || samples[place] != modelMapped(digits(number, order), order)[0] {
						t.Fatalf("%v with the order %d is mapped to %v", list, order, samples)
					}
				}
			}
		}
	}
}

// Promise 8, against the levels that the chapter lists.
func TestMappedBitsCanBeSliced(t *testing.T) {
	eachMappable(func(list []int, order int) {
		samples := impl.MapBits(list, order)
		wantSamples(t, "mapped", samples, modelMapped(list, order))
		if !impl.SignalValid(samples) || len(samples)*order != len(list) {
			t.Fatalf("%v is mapped with the order %d to %d samples, valid: %v", list, order, len(samples), impl.SignalValid(samples))
		}
		wantInts(t, "sliced", impl.SliceBits(samples, order), list)
	})
}

// Promise 8, with as many bits as can be mapped, and with one sample more.
func TestMostBitsThatAreMapped(t *testing.T) {
	for _, order := range orders() {
		for seed := range 20 {
			list := mixedBits(seed, order*impl.MaxSignal)
			samples := impl.MapBits(list, order)
			if len(samples) != impl.MaxSignal {
				t.Fatalf("%d bits are mapped with the order %d to %d samples", len(list), order, len(samples))
			}
			wantInts(t, "sliced", impl.SliceBits(samples, order), list)
			wantNotMapped(t, mixedBits(seed, order*(impl.MaxSignal+1)), order)
		}
	}
	if bits := impl.SliceBits(impl.MapBits(repeated(1, impl.MaxBits), 4), 4); len(bits) != impl.MaxBits {
		t.Fatalf("MaxBits bits are mapped and sliced to %d", len(bits))
	}
}

func TestNoBitsAreMapped(t *testing.T) {
	for order := -5; order <= 9; order++ {
		for _, empty := range [][]int{nil, {}} {
			wantNotMapped(t, empty, order)
		}
		for _, empty := range [][]impl.Sample{nil, {}} {
			wantNotSliced(t, empty, order)
			wantNotTurned(t, empty, order)
			wantPower(t, empty, 0)
		}
	}
}

// Promise 55.
func TestNeighbouringLevelsDifferInOneBit(t *testing.T) {
	eachMappable(func(list []int, order int) {
		if order != 4 || len(list) == 0 {
			return
		}
		samples := impl.MapBits(list, 4)
		place := int(mixed(len(list), 1) % uint64(len(samples)))
		sample := samples[place]
		for _, step := range []impl.Sample{{I: -2}, {I: 2}, {Q: -2}, {Q: 2}} {
			next := impl.Sample{I: sample.I + step.I, Q: sample.Q + step.Q}
			if max(next.I, -next.I, next.Q, -next.Q) > 3 {
				continue
			}
			other := impl.SliceBits(changed(samples, place, next), 4)
			if impl.HammingDistance(list, other) != 1 || differences(list[4*place:4*place+4], other[4*place:4*place+4]) != 1 {
				t.Fatalf("%v and %v at place %d carry %v and %v", sample, next, place, list, other)
			}
			wantSamples(t, "mapped again", impl.MapBits(other, 4), changed(samples, place, next))
		}
	})
}

// Promise 55, with all pairs of samples of the constellation: their bits differ in one place exactly if one component differs by one level.
func TestAllPairsOfLevels(t *testing.T) {
	levels := []int{-3, -1, 1, 3}
	for _, i := range levels {
		for _, q := range levels {
			bits := impl.SliceBits([]impl.Sample{{I: i, Q: q}}, 4)
			for _, otherI := range levels {
				for _, otherQ := range levels {
					steps := max(i-otherI, otherI-i)/2 + max(q-otherQ, otherQ-q)/2
					distance := impl.HammingDistance(bits, impl.SliceBits([]impl.Sample{{I: otherI, Q: otherQ}}, 4))
					if steps <= 1 && distance != steps || steps > 1 && distance < 1 {
						t.Fatalf("%d, %d and %d, %d differ in %d bits", i, q, otherI, otherQ, distance)
					}
				}
			}
		}
	}
}

func TestThresholds(t *testing.T) {
	for _, threshold := range []struct {
		component int
		one       []int
		two       []int
	}{
		{-100000, []int{0}, []int{0, 0}}, {-4, []int{0}, []int{0, 0}}, {-3, []int{0}, []int{0, 0}}, {-2, []int{0}, []int{0, 1}}, {-1, []int{0}, []int{0, 1}}, {0, []int{0}, []int{0, 1}},
		{1, []int{1}, []int{1, 1}}, {2, []int{1}, []int{1, 0}}, {3, []int{1}, []int{1, 0}}, {4, []int{1}, []int{1, 0}}, {100000, []int{1}, []int{1, 0}},
	} {
		i, q := impl.Sample{I: threshold.component}, impl.Sample{Q: threshold.component}
		wantInts(t, "order 1, I", impl.SliceBits([]impl.Sample{i}, 1), threshold.one)
		wantInts(t, "order 1, Q", impl.SliceBits([]impl.Sample{q}, 1), []int{0})
		wantInts(t, "order 2, I", impl.SliceBits([]impl.Sample{i}, 2), []int{threshold.one[0], 0})
		wantInts(t, "order 2, Q", impl.SliceBits([]impl.Sample{q}, 2), []int{0, threshold.one[0]})
		wantInts(t, "order 4, I", impl.SliceBits([]impl.Sample{i}, 4), []int{threshold.two[0], threshold.two[1], 0, 1})
		wantInts(t, "order 4, Q", impl.SliceBits([]impl.Sample{q}, 4), []int{0, 1, threshold.two[0], threshold.two[1]})
	}
}

// Promise 56, for all pairs of components on and beside the thresholds and the bounds.
func TestSlicesAreDecisions(t *testing.T) {
	for _, i := range components() {
		for _, q := range components() {
			alone := []impl.Sample{{I: i, Q: q}}
			between := []impl.Sample{{I: 1, Q: -1}, {I: i, Q: q}, {I: -1, Q: 1}}
			for _, order := range orders() {
				wantInts(t, "one sample", impl.SliceBits(alone, order), modelSliced(alone, order))
				wantInts(t, "three samples", impl.SliceBits(between, order), modelSliced(between, order))
			}
		}
	}
}

// Promise 56, for signals of all lengths.
func TestSamplesHaveAsManyBitsAsTheOrder(t *testing.T) {
	check := func(list []impl.Sample) {
		for _, order := range orders() {
			bits := impl.SliceBits(list, order)
			if len(bits) != order*len(list) || !impl.BitsValid(bits) {
				t.Fatalf("%d samples are sliced with the order %d to %v", len(list), order, bits)
			}
			wantInts(t, "sliced", bits, modelSliced(list, order))
		}
	}
	eachSignal(check)
	for length := range 257 {
		check(mixedSignal(length, length, 4))
		check(repeated(impl.Sample{}, length))
	}
}

// Promise 56: with the order 1 the component I decides alone.
func TestNegatedComponentsHaveInvertedBits(t *testing.T) {
	eachSignal(func(list []impl.Sample) {
		bits := impl.SliceBits(list, 1)
		negated, mirrored := slices.Clone(list), slices.Clone(list)
		want := slices.Clone(bits)
		for k := range list {
			negated[k].I = -list[k].I
			mirrored[k].Q = -list[k].Q
			if list[k].I != 0 {
				want[k] = 1 - want[k]
			}
		}
		wantInts(t, "I negated", impl.SliceBits(negated, 1), want)
		wantInts(t, "Q negated", impl.SliceBits(mirrored, 1), bits)
	})
	for _, component := range components() {
		bits := impl.SliceBits([]impl.Sample{{I: component}, {I: -component}}, 1)
		if component != 0 && (len(bits) != 2 || bits[0]+bits[1] != 1) {
			t.Fatalf("%d and its negative have the bits %v", component, bits)
		}
	}
	wantInts(t, "zeros", impl.SliceBits(repeated(impl.Sample{}, 3), 1), []int{0, 0, 0})
}

func TestQuarterTurns(t *testing.T) {
	list := []impl.Sample{{I: 1, Q: 2}, {}, {I: 100000, Q: -100000}, {I: -3}, {Q: 5}}
	wantSamples(t, "no turn", impl.TurnSamples(list, 0), list)
	wantSamples(t, "one turn", impl.TurnSamples(list, 1), []impl.Sample{{I: -2, Q: 1}, {}, {I: 100000, Q: 100000}, {Q: -3}, {I: -5}})
	wantSamples(t, "two turns", impl.TurnSamples(list, 2), []impl.Sample{{I: -1, Q: -2}, {}, {I: -100000, Q: 100000}, {I: 3}, {Q: -5}})
	wantSamples(t, "three turns", impl.TurnSamples(list, 3), []impl.Sample{{I: 2, Q: -1}, {}, {I: -100000, Q: -100000}, {Q: 3}, {I: 5}})
}

// Promise 57. Four quarter turns are turned one after the other, because they are too many for one call.
func TestFourQuarterTurnsChangeNothing(t *testing.T) {
	eachSignal(func(list []impl.Sample) {
		power := impl.SignalPower(list)
		wantPower(t, list, modelPower(list))
		for q := range 4 {
			turned := impl.TurnSamples(list, q)
			wantSamples(t, "turned", turned, modelTurned(list, q))
			wantPower(t, turned, power)
			if !impl.SignalValid(turned) {
				t.Fatalf("%v turned by %d is invalid", list, q)
			}
			if q > 0 {
				wantSamples(t, "turned back", impl.TurnSamples(turned, 4-q), list)
			}
			for more := range 4 {
				wantSamples(t, "turned twice", impl.TurnSamples(turned, more), modelTurned(list, (q+more)%4))
			}
		}
	})
}

// Promise 57, for all pairs of components on and beside the thresholds and the bounds.
func TestTurnedComponents(t *testing.T) {
	for _, i := range components() {
		for _, q := range components() {
			list := []impl.Sample{{I: i, Q: q}}
			for turns := range 4 {
				turned := impl.TurnSamples(list, turns)
				wantSamples(t, "turned", turned, modelTurned(list, turns))
				wantPower(t, turned, i*i+q*q)
			}
		}
	}
}

// Promise 58, with every sample, and with every component alone.
func TestPowerIsZeroForZeros(t *testing.T) {
	for length := range 257 {
		wantPower(t, repeated(impl.Sample{}, length), 0)
		for _, place := range []int{0, length / 2, length - 1} {
			if length == 0 {
				continue
			}
			for _, component := range []int{1, -1, 2, -3, 46341, 65536, -65536, 100000, -100000} {
				for _, sample := range []impl.Sample{{I: component}, {Q: component}} {
					wantPower(t, changed(repeated(impl.Sample{}, length), place, sample), component*component)
				}
			}
		}
	}
	wantPower(t, []impl.Sample{{I: 3, Q: 4}}, 25)
	wantPower(t, []impl.Sample{{I: 3, Q: 4}, {I: -1, Q: -2}}, 30)
	wantPower(t, repeated(impl.Sample{I: -100000, Q: 100000}, 256), 5120000000000)
	eachSignal(func(list []impl.Sample) {
		zeros := slices.Equal(list, repeated(impl.Sample{}, len(list)))
		if (impl.SignalPower(list) == 0) != zeros {
			t.Fatalf("%v has the power %d", list, impl.SignalPower(list))
		}
	})
}

// Promise 58, for two signals that are together a signal, and for such that are too long together.
func TestPowersAddUp(t *testing.T) {
	for _, first := range signalLengths() {
		for _, second := range signalLengths() {
			for seed, level := range []int{0, 1, 3, 100000} {
				a, b := mixedSignal(seed+first, first, level), mixedSignal(seed-second, second, level)
				if first+second <= impl.MaxSignal {
					wantPower(t, slices.Concat(a, b), impl.SignalPower(a)+impl.SignalPower(b))
				} else {
					wantPower(t, slices.Concat(a, b), -1)
				}
			}
		}
	}
	eachSignal(func(list []impl.Sample) {
		for cut := range list {
			wantPower(t, list, impl.SignalPower(list[:cut])+impl.SignalPower(list[cut:]))
		}
	})
}

// Promise 133.
func TestHalfTurnsInvert(t *testing.T) {
	eachMappable(func(list []int, order int) {
		bits := impl.SliceBits(impl.TurnSamples(impl.MapBits(list, order), 2), order)
		if order < 4 {
			wantInts(t, "half turn", bits, impl.AddBits(list, repeated(1, len(list))))
			return
		}
		// The second bit of a component with the order 4 tells its absolute value.
		for k := range list {
			if bits[k] != list[k]^(1-k%2) {
				t.Fatalf("%v turned by a half turn is sliced to %v", list, bits)
			}
		}
	})
}

func TestOtherOrders(t *testing.T) {
	for _, order := range notOrders() {
		for _, length := range append(bitLengths(), 4, 6, 10, 12, 20, 48, 96, 256, 257, 258, 320, 768, 1020, 1025) {
			wantNotMapped(t, repeated(0, length), order)
			wantNotMapped(t, mixedBits(length, length), order)
		}
		eachSignal(func(list []impl.Sample) {
			wantNotSliced(t, list, order)
		})
		wantNotSliced(t, repeated(impl.Sample{}, 257), order)
		wantNotMapped(t, []int{2}, order)
	}
}

func TestNumbersOfBits(t *testing.T) {
	for length := range 1100 {
		for _, list := range [][]int{repeated(0, length), repeated(1, length), mixedBits(length, length)} {
			for _, order := range orders() {
				if length%order != 0 || length/order > 256 {
					wantNotMapped(t, list, order)
				} else {
					wantSamples(t, "mapped", impl.MapBits(list, order), modelMapped(list, order))
				}
			}
		}
	}
	for _, length := range []int{1028, 2048, 4096, 65536, 65540} {
		for _, order := range orders() {
			wantNotMapped(t, repeated(0, length), order)
			wantNotMapped(t, repeated(1, length), order)
		}
	}
}

func TestOtherNumbersAreNotMapped(t *testing.T) {
	for _, number := range notBits() {
		for _, order := range orders() {
			for _, length := range []int{1, 2, 3, 4, 8, 12, 16, 63, 64, 65, 128, 250, 252, 255, 256, 257, 508, 512, 1020, 1024} {
				list := mixedBits(length, length)
				for _, place := range []int{0, 1, 2, 3, length / 2, length - 2, length - 1} {
					if place >= 0 && place < length {
						wantNotMapped(t, changed(list, place, number), order)
					}
				}
			}
		}
	}
}

func TestOtherNumbersOfTurns(t *testing.T) {
	for _, q := range notTurns() {
		eachSignal(func(list []impl.Sample) {
			wantNotTurned(t, list, q)
		})
		wantNotTurned(t, repeated(impl.Sample{}, 257), q)
		wantNotTurned(t, []impl.Sample{{I: 100001}}, q)
	}
}

func TestModulationArgumentsAreNotWritten(t *testing.T) {
	guard := impl.Sample{I: 7, Q: -7}
	checkSignal := func(list []impl.Sample) {
		part, whole := guarded(list, guard)
		before := slices.Clone(whole)
		impl.SignalValid(part)
		impl.SignalPower(part)
		for number := -1; number <= 5; number++ {
			overwrite(impl.SliceBits(part, number), 9)
			overwrite(impl.TurnSamples(part, number), impl.Sample{I: 9, Q: 9})
		}
		wantSamples(t, "signal", whole, before)
	}
	eachSignal(func(list []impl.Sample) {
		checkSignal(list)
		checkSignal(append(slices.Clone(list), impl.Sample{I: 100001}))
		checkSignal(append(slices.Clone(list), impl.Sample{Q: math.MinInt}))
	})
	checkSignal(repeated(impl.Sample{I: 3}, 300))
	for _, length := range append(bitLengths(), 4, 12, 256, 1020, 1025, 1028) {
		for _, list := range [][]int{repeated(0, length), mixedBits(length, length), append(mixedBits(length, length), 2)} {
			part, whole := guarded(list, 7)
			before := slices.Clone(whole)
			for order := -1; order <= 5; order++ {
				overwrite(impl.MapBits(part, order), impl.Sample{I: 9, Q: 9})
			}
			wantInts(t, "list", whole, before)
		}
	}
}

// Signals that are not turned, and signals of zeros, are equal to the results, which are new memory nevertheless.
func TestModulationResultsAreNewMemory(t *testing.T) {
	nine := impl.Sample{I: 9, Q: 9}
	eachSignal(func(list []impl.Sample) {
		for number := range 4 {
			argument := slices.Clone(list)
			turned, again := impl.TurnSamples(argument, number), impl.TurnSamples(argument, number)
			order := orders()[number%3]
			sliced, slicedAgain := impl.SliceBits(argument, order), impl.SliceBits(argument, order)
			overwrite(argument, nine)
			overwrite(again, nine)
			overwrite(slicedAgain, 9)
			wantSamples(t, "TurnSamples", turned, modelTurned(list, number))
			wantInts(t, "SliceBits", sliced, modelSliced(list, order))
		}
	})
	for _, order := range orders() {
		for _, count := range signalLengths() {
			list := mixedBits(count, order*count)
			argument := slices.Clone(list)
			samples, again := impl.MapBits(argument, order), impl.MapBits(argument, order)
			overwrite(argument, 9)
			overwrite(again, nine)
			wantSamples(t, "MapBits", samples, modelMapped(list, order))
		}
	}
}

// The results are the same after every call, also if results are written to.
func TestModulationKeepsNoState(t *testing.T) {
	nine := impl.Sample{I: 9, Q: 9}
	for _, order := range orders() {
		for number := range 1 << order {
			list := digits(number, order)
			for _, other := range orders() {
				overwrite(impl.MapBits(repeated(1, 4*other), other), nine)
				overwrite(impl.SliceBits(repeated(impl.Sample{I: 3, Q: -3}, 256), other), 9)
				impl.MapBits(repeated(2, 4), other)
			}
			overwrite(impl.TurnSamples(modelMapped(list, order), 3), nine)
			wantPower(t, []impl.Sample{{I: 100001}}, -1)
			wantSamples(t, "MapBits", impl.MapBits(list, order), modelMapped(list, order))
			wantInts(t, "SliceBits", impl.SliceBits(modelMapped(list, order), order), list)
			wantSamples(t, "TurnSamples", impl.TurnSamples(modelMapped(list, order), 1), modelTurned(modelMapped(list, order), 1))
			wantPower(t, modelMapped(list, order), modelPower(modelMapped(list, order)))
		}
	}
}
