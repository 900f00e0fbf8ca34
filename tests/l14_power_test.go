package tests

import (
	"math"
	"slices"
	"sort"
	"testing"

	"loop.example/softwareradio/impl"
)

// outside returns numbers that are less than least or greater than most; some of them look like a number between if only their last digits or their absolute values are kept.
func outside(least int, most int) []int {
	var list []int
	for _, far := range []int{0, 1 << 8, 1 << 10, 1 << 14, 1 << 16, 1 << 31, 1 << 32, 1 << 53, 1 << 62, math.MinInt} {
		for _, near := range []int{least, least + 1, (least + most) / 2, most - 1, most} {
			list = append(list, near+far, near-far, -near+far, -near-far)
		}
	}
	list = append(list, least-1, least-2, most+1, most+2, -most-1, 2*most, 2*most+1, 10*most, math.MaxInt, math.MaxInt-1, math.MinInt, math.MinInt+1)
	list = slices.DeleteFunc(list, func(number int) bool { return number >= least && number <= most })
	slices.Sort(list)
	return slices.Compact(list)
}

// linksOf has the gains of all rows one after the other.
func linksOf(noise int, target int, gains ...int) impl.Links {
	x := impl.Links{Noise: noise, Target: target}
	count := 1
	for count*count < len(gains) {
		count++
	}
	for row := range slices.Chunk(gains, count) {
		x.Gain = append(x.Gain, slices.Clone(row))
	}
	return x
}

func copyOfLinks(x impl.Links) impl.Links {
	gains := make([][]int, len(x.Gain))
	for row := range x.Gain {
		gains[row] = slices.Clone(x.Gain[row])
	}
	x.Gain = gains
	return x
}

func withGain(x impl.Links, row int, column int, gain int) impl.Links {
	x = copyOfLinks(x)
	x.Gain[row][column] = gain
	return x
}

func withNoise(x impl.Links, noise int) impl.Links {
	x.Noise = noise
	return x
}

func withTarget(x impl.Links, target int) impl.Links {
	x.Target = target
	return x
}

// evenLinks have the same gain to every own receiver, and another one to all other receivers.
func evenLinks(count int, own int, other int, noise int, target int) impl.Links {
	gains := repeated(other, count*count)
	for link := range count {
		gains[link*count+link] = own
	}
	return linksOf(noise, target, gains...)
}

// ringLinks are disturbed by one other link each: the first link with the gain first, the others with the gain other.
func ringLinks(count int, own []int, first int, other int, noise int, target int) impl.Links {
	x := evenLinks(count, 1, 0, noise, target)
	for link := range count {
		x.Gain[link][link] = own[link]
		x.Gain[link][(link+count-1)%count] = other
	}
	x.Gain[0][count-1] = first
	return x
}

// slowRing needs some 44000 steps: a step increases the power of the first link by one, and the next four steps hand that on to the others.
func slowRing() impl.Links {
	return ringLinks(5, []int{900, 892, 892, 892, 892}, 1000, 991, 1, 9)
}

// mixedLinks has gains to other receivers up to a level that depends on the seed, so that some of the links reach their targets and some do not.
func mixedLinks(seed int, count int) impl.Links {
	number := func(place int, least int, most int) int {
		return least + int(mixed(seed, place)%uint64(most-least+1))
	}
	levels := []int{0, 1, 2, 5, 20, 100, 300, 1000}
	own := []int{1, 2, 10, 300, 1000}[number(0, 0, 4)]
	other := levels[number(1, 0, len(levels)-1)]
	gains := make([]int, count*count)
	for place := range gains {
		gains[place] = number(10+place, 0, other)
		if place%(count+1) == 0 {
			gains[place] = number(10+place, (own+1)/2, own)
		}
	}
	noise := []int{1, 2, 999, 1000, number(3, 1, 1000), number(3, 1, 20)}[number(2, 0, 5)]
	target := []int{1, 2, 9, 10, 11, 99, 100, number(5, 1, 100), number(5, 1, 20)}[number(4, 0, 8)]
	return linksOf(noise, target, gains...)
}

// reachableLinks reach their targets: exactly or with some signal left, with powers of 1, of MaxPower and between.
func reachableLinks() []impl.Links {
	return []impl.Links{
		linksOf(5, 10, 10, 1, 2, 10),
		linksOf(1, 1, 1), linksOf(1, 1, 1000), linksOf(1, 100, 1), linksOf(1, 100, 1000),
		linksOf(1000, 1, 1), linksOf(1000, 1, 1000), linksOf(1000, 100, 1000),
		// This link reaches its target with MaxPower exactly; the next ones do not need all of it.
		linksOf(1000, 100, 1), linksOf(999, 100, 1), linksOf(1000, 99, 1), linksOf(7, 13, 3),
		linksOf(1, 20, 2, 1, 1, 5), linksOf(1, 10, 2, 1, 1, 2), linksOf(30, 15, 100, 7, 12, 90), linksOf(900, 9, 10, 7, 8, 9),
		evenLinks(2, 1000, 1000, 1, 9), evenLinks(2, 1000, 999, 10, 10), evenLinks(2, 1000, 999, 9, 10),
		// The first link needs 10000 exactly, and a part of the last unit of it.
		linksOf(1000, 1, 1, 990, 0, 0, 1, 0, 0, 0, 1000), linksOf(999, 1, 1, 990, 0, 0, 1, 0, 0, 0, 1000),
		linksOf(9, 17, 500, 3, 0, 40, 400, 9, 1, 0, 1), evenLinks(3, 1000, 400, 77, 10), evenLinks(3, 10, 4, 777, 10),
		evenLinks(5, 1, 0, 1000, 100), evenLinks(5, 1000, 1, 1, 1), evenLinks(5, 1000, 249, 10, 10), evenLinks(5, 1000, 100, 1000, 20),
		slowRing(),
	}
}

// lostLinks do not reach their targets: by far or by one, all of them or some, with the others below MaxPower.
func lostLinks() []impl.Links {
	return []impl.Links{
		linksOf(1, 20, 1, 1, 1, 1), evenLinks(2, 1, 1, 1, 10), evenLinks(2, 1, 1000, 1000, 100), evenLinks(2, 1000, 1000, 1, 10), evenLinks(2, 100, 1000, 1, 1),
		// The first link misses its target by one, though it has MaxPower.
		linksOf(1000, 1, 1, 990, 1, 0, 1, 0, 0, 0, 1000),
		linksOf(1000, 100, 1, 1, 0, 1000), linksOf(1000, 100, 1000, 0, 1, 1), linksOf(1, 10, 1, 1, 0, 1, 1, 0, 1, 0, 1000),
		linksOf(2, 30, 1, 0, 3, 0, 1, 0, 3, 0, 1), evenLinks(3, 1000, 500, 1, 10), evenLinks(3, 999, 1000, 3, 5),
		evenLinks(5, 1, 1, 1, 10), evenLinks(5, 1000, 250, 1, 10), evenLinks(5, 1, 1000, 1000, 100), evenLinks(5, 1000, 1000, 1, 3),
		ringLinks(5, repeated(1000, 5), 1000, 1000, 1, 10), ringLinks(4, repeated(7, 4), 7, 7, 1, 11),
	}
}

func eachLinks(check func(x impl.Links)) {
	for _, x := range slices.Concat(reachableLinks(), lostLinks()) {
		check(x)
	}
	for count := 1; count <= 5; count++ {
		for seed := range 120 {
			check(mixedLinks(1000*count+seed, count))
		}
	}
}

// smallPairs are all pairs of links with small gains, and a few noises and targets.
func smallPairs(check func(x impl.Links)) {
	for _, target := range []int{1, 5, 9, 10, 11, 20} {
		for _, noise := range []int{1, 2, 5} {
			for number := range 81 {
				gains := []int{1 + number%3, number / 3 % 3, number / 9 % 3, 1 + number/27}
				check(linksOf(noise, target, gains...))
			}
		}
	}
}

// margin is by how much a link passes its target, in the units in which LinksMeet compares; it is negative if the link misses the target.
func margin(x impl.Links, power []int, link int) int {
	result := -x.Target * x.Noise
	for sender, gain := range x.Gain[link] {
		factor := -x.Target
		if sender == link {
			factor = 10
		}
		result += factor * gain * power[sender]
	}
	return result
}

func modelMeet(x impl.Links, power []int) bool {
	for link := range x.Gain {
		if margin(x, power, link) < 0 {
			return false
		}
	}
	return true
}

// modelPowerStep searches the powers of each link for the least one that reaches the target.
func modelPowerStep(x impl.Links, power []int) []int {
	next := make([]int, len(power))
	for link := range power {
		tried := slices.Clone(power)
		next[link] = sort.Search(10000, func(number int) bool {
			tried[link] = number
			return margin(x, tried, link) >= 0
		})
	}
	return next
}

// modelLeastPowers raises the powers one by one, the last link first, and each link goes by the powers that the others have already.
func modelLeastPowers(x impl.Links) []int {
	power := make([]int, len(x.Gain))
	for raised := true; raised; {
		raised = false
		for link := len(power) - 1; link >= 0; link-- {
			for power[link] < 10000 && margin(x, power, link) < 0 {
				power[link]++
				raised = true
			}
		}
	}
	return power
}

// allPowers are all lists of powers up to a bound.
func allPowers(count int, bound int) [][]int {
	lists := [][]int{nil}
	for range count {
		var longer [][]int
		for _, list := range lists {
			for number := range bound + 1 {
				longer = append(longer, append(slices.Clone(list), number))
			}
		}
		lists = longer
	}
	return lists
}

// nearPowers are a list of powers with each power decreased by one, increased by one, or neither.
func nearPowers(power []int) [][]int {
	var lists [][]int
	for _, steps := range allPowers(len(power), 2) {
		near := slices.Clone(power)
		for link := range near {
			near[link] = nearestInRange(near[link]+steps[link]-1, 0, 10000)
		}
		lists = append(lists, near)
	}
	return lists
}

func mixedPowers(seed int, count int, most int) []int {
	power := make([]int, count)
	for link := range power {
		power[link] = int(mixed(seed, link) % uint64(most+1))
	}
	return power
}

// somePowers are powers of zeros and of MaxPower, the least powers and some above them, and mixed powers.
func somePowers(x impl.Links, seed int) [][]int {
	count := len(x.Gain)
	least, _ := impl.LeastPowers(x)
	lists := [][]int{repeated(0, count), repeated(1, count), repeated(9999, count), repeated(10000, count), least}
	for _, parts := range []int{50, 99, 101, 150, 300} {
		scaled := make([]int, count)
		for link := range scaled {
			scaled[link] = min(least[link]*parts/100, 10000)
		}
		lists = append(lists, scaled)
	}
	for link := range count {
		lists = append(lists, changed(repeated(0, count), link, 10000), changed(repeated(10000, count), link, 0), changed(least, link, max(0, least[link]-1)), changed(least, link, min(least[link]+1, 10000)))
	}
	for place, most := range []int{3, 20, 100, 1000, 10000, 10000} {
		lists = append(lists, mixedPowers(10*seed+place, count, most))
	}
	return lists
}

// risen returns powers that are not less than the given ones.
func risen(power []int, seed int) []int {
	power = slices.Clone(power)
	for link := range power {
		power[link] = min(power[link]+int(mixed(seed, link)%7)*int(mixed(seed, link+9)%500), 10000)
	}
	return power
}

func noneGreater(a []int, b []int) bool {
	for link := range a {
		if a[link] > b[link] {
			return false
		}
	}
	return len(a) == len(b)
}

func wantMeet(t *testing.T, x impl.Links, power []int, want bool) {
	t.Helper()
	if impl.LinksMeet(x, power) != want {
		t.Fatalf("%v reach their targets with %v: %v, want %v", x, power, !want, want)
	}
}

func wantPowerStep(t *testing.T, x impl.Links, power []int, want ...int) {
	t.Helper()
	if next := impl.PowerStep(x, power); !slices.Equal(next, want) {
		t.Fatalf("%v: the powers %v become %v, want %v", x, power, next, want)
	}
}

func wantLeastPowers(t *testing.T, x impl.Links, reached bool, want ...int) {
	t.Helper()
	if power, ok := impl.LeastPowers(x); ok != reached || !slices.Equal(power, want) {
		t.Fatalf("%v have the least powers %v, %v, want %v, %v", x, power, ok, want, reached)
	}
}

func wantRefusedPowers(t *testing.T, x impl.Links, power []int) {
	t.Helper()
	wantMeet(t, x, power, false)
	wantPowerStep(t, x, power)
}

// wantRefusedLinks tries also powers that would be valid for other links.
func wantRefusedLinks(t *testing.T, x impl.Links) {
	t.Helper()
	if impl.LinksValid(x) {
		t.Fatalf("%v are valid", x)
	}
	wantLeastPowers(t, x, false)
	for count := range len(x.Gain) + 2 {
		wantRefusedPowers(t, x, repeated(0, count))
		wantRefusedPowers(t, x, repeated(10000, count))
	}
}

func TestLinksExamples(t *testing.T) {
	x := linksOf(5, 10, 10, 1, 2, 10)
	wantMeet(t, x, []int{0, 1}, false)
	wantMeet(t, x, []int{1, 0}, false)
	wantMeet(t, x, []int{1, 1}, true)
	wantMeet(t, x, []int{10000, 10000}, true)
	wantMeet(t, x, []int{1, 10000}, false)
	wantPowerStep(t, x, []int{0, 0}, 1, 1)
	// The first link needs 5 + 95 of its gain 10, exactly; with one more it needs another unit.
	wantPowerStep(t, x, []int{3, 95}, 10, 2)
	wantPowerStep(t, x, []int{3, 96}, 11, 2)
	wantPowerStep(t, x, []int{10000, 10000}, 1001, 2001)
	wantLeastPowers(t, x, true, 1, 1)
}

// The target is in tenths, of the sum of the noise and the other powers at the receiver; the gains of a row belong to one receiver.
func TestRatios(t *testing.T) {
	x := linksOf(6, 25, 7, 3, 2, 100)
	// 10 * 7 * 15 is 1050, and so is 25 * (6 + 3 * 12).
	wantMeet(t, x, []int{15, 12}, true)
	wantMeet(t, x, []int{15, 13}, false)
	wantMeet(t, x, []int{14, 12}, false)
	wantMeet(t, x, []int{16, 12}, true)
	wantPowerStep(t, x, []int{15, 12}, 15, 1)
	wantPowerStep(t, x, []int{17, 12}, 15, 1)
	// 25 * (6 + 2 * 17) is 1000 exactly; one unit more of the first power needs more than that.
	wantPowerStep(t, x, []int{17, 13}, 17, 1)
	wantPowerStep(t, x, []int{18, 14}, 18, 2)
	wantLeastPowers(t, x, true, 4, 1)
	// The transposed gains have other powers.
	y := linksOf(6, 25, 7, 2, 3, 100)
	wantPowerStep(t, y, []int{17, 13}, 12, 2)
	wantPowerStep(t, linksOf(1, 10, 10, 1, 2, 3, 10, 4, 5, 6, 10), []int{1, 20, 300}, 63, 121, 13)
}

func TestOneLink(t *testing.T) {
	for _, noise := range []int{1, 2, 10, 99, 500, 999, 1000} {
		for _, target := range []int{1, 2, 9, 10, 11, 50, 99, 100} {
			for _, gain := range []int{1, 2, 3, 10, 99, 500, 999, 1000} {
				x := linksOf(noise, target, gain)
				least := noise * target / (10 * gain)
				if least*10*gain < noise*target {
					least++
				}
				wantLeastPowers(t, x, true, least)
				wantMeet(t, x, []int{least}, true)
				wantMeet(t, x, []int{least - 1}, false)
				wantMeet(t, x, []int{10000}, true)
				for _, power := range []int{0, 1, least - 1, least, 10000} {
					wantPowerStep(t, x, []int{power}, least)
				}
			}
		}
	}
	wantLeastPowers(t, linksOf(1000, 100, 1), true, 10000)
	wantMeet(t, linksOf(1000, 100, 1), []int{9999}, false)
}

// Links that do not disturb each other have the powers that they would have alone.
func TestLinksWithoutDisturbance(t *testing.T) {
	own := []int{1, 2, 10, 999, 1000}
	for count := 1; count <= 5; count++ {
		x := evenLinks(count, 1, 0, 1000, 37)
		want := make([]int, count)
		for link := range count {
			x.Gain[link][link] = own[link]
			alone, _ := impl.LeastPowers(linksOf(1000, 37, own[link]))
			want[link] = alone[0]
		}
		wantLeastPowers(t, x, true, want...)
		wantMeet(t, x, want, true)
		for _, power := range somePowers(x, count) {
			wantPowerStep(t, x, power, want...)
			wantMeet(t, x, power, noneGreater(want, power))
		}
	}
}

func TestPowersAtTheEndOfTheirRange(t *testing.T) {
	exactly := linksOf(1000, 1, 1, 990, 0, 0, 1, 0, 0, 0, 1000)
	wantLeastPowers(t, exactly, true, 10000, 100, 1)
	wantPowerStep(t, exactly, []int{10000, 100, 1}, 10000, 100, 1)
	wantMeet(t, exactly, []int{10000, 100, 1}, true)
	wantMeet(t, exactly, []int{9999, 100, 1}, false)
	wantLeastPowers(t, withNoise(exactly, 991), true, 10000, 100, 1)
	wantLeastPowers(t, withGain(exactly, 0, 1, 989), true, 9990, 100, 1)
	wantLeastPowers(t, withNoise(exactly, 990), true, 9900, 99, 1)
	missed := withGain(exactly, 0, 2, 1)
	wantLeastPowers(t, missed, false, 10000, 100, 1)
	wantPowerStep(t, missed, []int{10000, 100, 1}, 10000, 100, 1)
	wantMeet(t, missed, []int{10000, 100, 1}, false)
	wantMeet(t, missed, []int{10000, 100, 0}, false)
	wantPowerStep(t, evenLinks(5, 1, 1000, 1000, 100), repeated(10000, 5), repeated(10000, 5)...)
	wantPowerStep(t, evenLinks(5, 1000, 1000, 1000, 1), repeated(10000, 5), repeated(4001, 5)...)
	wantMeet(t, evenLinks(5, 1, 1000, 1000, 100), repeated(10000, 5), false)
	wantMeet(t, evenLinks(5, 1000, 249, 1000, 10), repeated(10000, 5), true)
	wantMeet(t, evenLinks(5, 1000, 250, 1000, 10), repeated(10000, 5), false)
}

func TestTargetsThatCannotBeReached(t *testing.T) {
	wantLeastPowers(t, linksOf(1, 20, 1, 1, 1, 1), false, 10000, 10000)
	wantLeastPowers(t, evenLinks(5, 1000, 1000, 1, 10), false, repeated(10000, 5)...)
	wantLeastPowers(t, linksOf(1000, 100, 1, 1, 0, 1000), false, 10000, 10)
	wantLeastPowers(t, linksOf(1000, 100, 1000, 0, 1, 1), false, 10, 10000)
	wantLeastPowers(t, linksOf(1, 10, 1, 1, 0, 1, 1, 0, 1, 0, 1000), false, 10000, 10000, 11)
	wantLeastPowers(t, linksOf(2, 30, 1, 0, 3, 0, 1, 0, 3, 0, 1), false, 10000, 6, 10000)
	for _, x := range lostLinks() {
		power, ok := impl.LeastPowers(x)
		if ok || !slices.Contains(power, 10000) {
			t.Fatalf("%v have the least powers %v, %v", x, power, ok)
		}
	}
	some := 0
	eachLinks(func(x impl.Links) {
		power, ok := impl.LeastPowers(x)
		if ok {
			return
		}
		if !noneGreater(repeated(10000, len(power)), power) {
			some++
		}
		// The powers of links that cannot all reach the target are a fixed point, too.
		wantPowerStep(t, x, power, power...)
		wantMeet(t, x, power, false)
		for _, other := range somePowers(x, some) {
			wantMeet(t, x, other, false)
		}
	})
	if some < 20 {
		t.Fatalf("only %d links have some powers below MaxPower", some)
	}
}

// Powers that change by one every few steps are followed to the end.
func TestManySteps(t *testing.T) {
	wantLeastPowers(t, slowRing(), true, 8929, 8928, 8928, 8928, 8928)
	wantLeastPowers(t, evenLinks(2, 1, 1, 1, 10), false, 10000, 10000)
	wantLeastPowers(t, ringLinks(5, repeated(1000, 5), 1000, 1000, 1, 10), false, repeated(10000, 5)...)
	wantLeastPowers(t, evenLinks(2, 1000, 999, 10, 10), true, 10, 10)
	wantLeastPowers(t, evenLinks(2, 1000, 999, 1000, 10), true, 1000, 1000)
	power, steps := repeated(0, 5), 0
	for next := impl.PowerStep(slowRing(), power); !slices.Equal(next, power); next = impl.PowerStep(slowRing(), power) {
		power = next
		steps++
	}
	wantInts(t, "single steps", power, []int{8929, 8928, 8928, 8928, 8928})
	if steps != 44605 {
		t.Fatalf("%d steps", steps)
	}
}

func TestStepsLikeModel(t *testing.T) {
	seed := 0
	eachLinks(func(x impl.Links) {
		seed++
		for _, power := range somePowers(x, seed) {
			wantPowerStep(t, x, power, modelPowerStep(x, power)...)
			wantMeet(t, x, power, modelMeet(x, power))
		}
	})
	smallPairs(func(x impl.Links) {
		for _, power := range allPowers(2, 5) {
			wantPowerStep(t, x, power, modelPowerStep(x, power)...)
			wantMeet(t, x, power, modelMeet(x, power))
		}
	})
}

// Powers that just reach a target, and powers that just miss it: the last unit of each power is needed.
func TestTargetsThatAreJustReached(t *testing.T) {
	exact, passed := 0, 0
	eachLinks(func(x impl.Links) {
		power, ok := impl.LeastPowers(x)
		for link := range power {
			if ok && margin(x, power, link) == 0 {
				exact++
			} else if ok && margin(x, power, link) > 0 {
				passed++
			}
			wantMeet(t, x, changed(power, link, power[link]-1), false)
		}
		for _, near := range nearPowers(power) {
			wantMeet(t, x, near, modelMeet(x, near))
		}
	})
	if exact < 20 || passed < 20 {
		t.Fatalf("%d links reach their targets exactly, %d with some signal left", exact, passed)
	}
}

// Promise 13: the least powers reach the target and are a fixed point; no powers that reach it are less for any link.
func TestLeastPowersAreLeast(t *testing.T) {
	seed, reached := 0, 0
	eachLinks(func(x impl.Links) {
		seed++
		power, ok := impl.LeastPowers(x)
		want := modelLeastPowers(x)
		wantLeastPowers(t, x, modelMeet(x, want), want...)
		if !ok {
			return
		}
		reached++
		wantMeet(t, x, power, true)
		wantPowerStep(t, x, power, power...)
		for _, other := range slices.Concat(nearPowers(power), somePowers(x, seed)) {
			if impl.LinksMeet(x, other) && !noneGreater(power, other) {
				t.Fatalf("%v have the least powers %v, but reach their targets with %v", x, power, other)
			}
		}
	})
	if reached < 100 || reached > seed-100 {
		t.Fatalf("%d of %d links reach their targets", reached, seed)
	}
}

// wantLeastOf checks promise 13 for links and all powers up to a bound; the least of them that reach the target are the least powers.
func wantLeastOf(t *testing.T, x impl.Links, bound int, lists [][]int) {
	t.Helper()
	if !impl.LinksValid(x) {
		t.Fatalf("%v are not valid", x)
	}
	least := repeated(bound+1, len(x.Gain))
	for _, power := range lists {
		if modelMeet(x, power) {
			for link := range least {
				least[link] = min(least[link], power[link])
			}
		}
	}
	power, ok := impl.LeastPowers(x)
	if least[0] <= bound {
		wantLeastPowers(t, x, true, least...)
	} else if ok && slices.Max(power) <= bound {
		t.Fatalf("%v have the least powers %v, but no such powers reach the targets", x, power)
	}
}

// Promise 13, with all powers up to a bound.
func TestLeastOfAllPowers(t *testing.T) {
	pairs := allPowers(2, 40)
	smallPairs(func(x impl.Links) {
		wantLeastOf(t, x, 40, pairs)
	})
	for place, bound := range []int{500, 40, 12, 6, 4} {
		count := place + 1
		lists := allPowers(count, bound)
		for seed := range 200 {
			wantLeastOf(t, mixedLinks(seed, count), bound, lists)
			few := mixedPowers(seed, count*count, 3)
			for link := range count {
				few[link*(count+1)] = 4 + int(mixed(seed, link)%7)
			}
			wantLeastOf(t, linksOf(1+seed%20, 1+seed%13, few...), bound, lists)
		}
	}
}

// Promise 13: links that cannot reach their targets with the least powers cannot reach them with any.
func TestNoPowersReachLostTargets(t *testing.T) {
	few := []int{0, 1, 2, 5, 10, 100, 101, 1000, 5000, 9999, 10000}
	for _, x := range lostLinks() {
		for _, places := range allPowers(len(x.Gain), min(len(few)-1, 10-len(x.Gain))) {
			power := make([]int, len(places))
			for link, place := range places {
				power[link] = few[len(few)-1-place]
			}
			wantMeet(t, x, power, false)
		}
	}
	missed := linksOf(1, 10, 1, 1, 1, 1)
	for first := 0; first <= 10000; first++ {
		for _, second := range []int{first - 1, first, first + 1, 0, 10000} {
			wantMeet(t, missed, []int{first, nearestInRange(second, 0, 10000)}, false)
		}
	}
}

// Promise 79: if all links reach the target, a step does not increase any power; a lower target is reached, too.
func TestPowersThatSufficeAreNotIncreased(t *testing.T) {
	seed, met := 0, 0
	check := func(x impl.Links, power []int) {
		if !impl.LinksMeet(x, power) {
			return
		}
		met++
		next := impl.PowerStep(x, power)
		if !noneGreater(next, power) {
			t.Fatalf("%v: the powers %v suffice, but become %v", x, power, next)
		}
		wantMeet(t, x, next, true)
		for _, target := range []int{1, 2, x.Target / 2, x.Target - 2, x.Target - 1} {
			if target >= 1 && target < x.Target {
				wantMeet(t, withTarget(x, target), power, true)
				wantMeet(t, withTarget(x, target), next, true)
			}
		}
	}
	eachLinks(func(x impl.Links) {
		seed++
		least, _ := impl.LeastPowers(x)
		for _, power := range slices.Concat(somePowers(x, seed), nearPowers(least)) {
			check(x, power)
			check(x, risen(power, seed))
		}
	})
	smallPairs(func(x impl.Links) {
		for _, power := range allPowers(2, 20) {
			check(x, power)
		}
	})
	if met < 1000 {
		t.Fatalf("only %d powers reach the targets", met)
	}
}

// Promise 80: with greater powers the next powers are not less.
func TestStepsAreMonotone(t *testing.T) {
	check := func(x impl.Links, power []int, greater []int) {
		next, more := impl.PowerStep(x, power), impl.PowerStep(x, greater)
		if !noneGreater(next, more) || len(next) != len(power) {
			t.Fatalf("%v: the powers %v become %v, but %v become %v", x, power, next, greater, more)
		}
	}
	seed := 0
	eachLinks(func(x impl.Links) {
		seed++
		for place, power := range somePowers(x, seed) {
			check(x, power, risen(power, seed+place))
			check(x, power, repeated(10000, len(power)))
			check(x, repeated(0, len(power)), power)
			for link := range power {
				check(x, power, changed(power, link, min(power[link]+1, 10000)))
			}
		}
	})
	smallPairs(func(x impl.Links) {
		for _, power := range allPowers(2, 12) {
			check(x, power, []int{power[0] + 1, power[1]})
			check(x, power, []int{power[0], power[1] + 1})
		}
	})
}

// Promise 80: a fixed point whose powers are less than MaxPower reaches the target.
func TestFixedPointsReachTheTarget(t *testing.T) {
	found, above := 0, 0
	check := func(x impl.Links, power []int) {
		if !slices.Equal(impl.PowerStep(x, power), power) {
			return
		}
		if slices.Max(power) < 10000 {
			found++
			wantMeet(t, x, power, true)
		}
		least, _ := impl.LeastPowers(x)
		if !noneGreater(least, power) {
			t.Fatalf("%v have the fixed point %v and the least powers %v", x, power, least)
		}
		if !slices.Equal(least, power) {
			above++
		}
	}
	eachLinks(func(x impl.Links) {
		power := repeated(10000, len(x.Gain))
		for range 60000 {
			next := impl.PowerStep(x, power)
			if slices.Equal(next, power) {
				break
			}
			power = next
		}
		check(x, power)
		least, _ := impl.LeastPowers(x)
		check(x, least)
	})
	smallPairs(func(x impl.Links) {
		for _, power := range allPowers(2, 20) {
			check(x, power)
		}
	})
	check(evenLinks(2, 1000, 999, 10, 10), []int{1000, 1000})
	wantPowerStep(t, evenLinks(2, 1000, 999, 10, 10), []int{1000, 1000}, 1000, 1000)
	if found < 1000 || above < 100 {
		t.Fatalf("%d fixed points below MaxPower, %d above the least powers", found, above)
	}
}

// Promise 120: if the links can reach the target, the least powers for less noise are not greater.
func TestMoreNoiseNeedsMorePower(t *testing.T) {
	reached := 0
	check := func(x impl.Links, noises []int) {
		var less []int
		lost := false
		for _, noise := range noises {
			power, ok := impl.LeastPowers(withNoise(x, noise))
			if less != nil && !noneGreater(less, power) {
				t.Fatalf("%v have the least powers %v with the noise %d, but %v with less", x, power, noise, less)
			}
			if ok && lost {
				t.Fatalf("%v reach their targets with the noise %d, but not with less", x, noise)
			}
			if ok {
				reached++
			}
			less, lost = power, !ok
		}
	}
	all := make([]int, 1000)
	for place := range all {
		all[place] = place + 1
	}
	for _, x := range slices.Concat(reachableLinks(), []impl.Links{linksOf(1000, 100, 1, 1, 0, 1000), evenLinks(3, 1, 0, 1, 100), evenLinks(5, 1000, 240, 1, 10), evenLinks(5, 100, 24, 1, 10)}) {
		check(x, all)
	}
	eachLinks(func(x impl.Links) {
		check(x, []int{1, 2, 3, 10, 99, 100, 101, 500, 999, 1000})
	})
	if reached < 10000 {
		t.Fatalf("only %d targets are reached", reached)
	}
}

// A greater target needs more power, too, and so does a greater gain from another sender.
func TestHarderLinksNeedMorePower(t *testing.T) {
	check := func(easy impl.Links, hard impl.Links) {
		less, reached := impl.LeastPowers(easy)
		more, ok := impl.LeastPowers(hard)
		if !noneGreater(less, more) || ok && !reached {
			t.Fatalf("%v have the least powers %v, %v, and %v have %v, %v", easy, less, reached, hard, more, ok)
		}
	}
	eachLinks(func(x impl.Links) {
		for _, target := range []int{1, x.Target / 2, x.Target - 1} {
			if target >= 1 {
				check(withTarget(x, target), x)
			}
		}
		check(x, withTarget(x, 100))
		for row := range x.Gain {
			for column, gain := range x.Gain[row] {
				if row == column {
					check(withGain(x, row, column, 1000), x)
				} else {
					check(withGain(x, row, column, gain/2), x)
					check(x, withGain(x, row, column, min(gain+7, 1000)))
				}
			}
		}
	})
}

func TestValidLinks(t *testing.T) {
	eachLinks(func(x impl.Links) {
		if !impl.LinksValid(x) {
			t.Fatalf("%v are not valid", x)
		}
	})
	for count := 1; count <= 5; count++ {
		for _, noise := range []int{1, 2, 500, 999, 1000} {
			for _, target := range []int{1, 2, 50, 99, 100} {
				for _, other := range []int{0, 1, 2, 500, 999, 1000} {
					for _, own := range []int{1, 2, 500, 999, 1000} {
						if x := evenLinks(count, own, other, noise, target); !impl.LinksValid(x) {
							t.Fatalf("%v are not valid", x)
						}
					}
				}
			}
		}
	}
	same := []int{1, 1, 1}
	if !impl.LinksValid(impl.Links{Gain: [][]int{same, same, same}, Noise: 1, Target: 1}) {
		t.Fatal("rows that share their memory are not valid")
	}
}

// Promise 78: valid links with a gain of 0 on the diagonal, or without noise, are invalid.
func TestReceiversHearTheirSenders(t *testing.T) {
	eachLinks(func(x impl.Links) {
		wantRefusedLinks(t, withNoise(x, 0))
		for link := range x.Gain {
			wantRefusedLinks(t, withGain(x, link, link, 0))
			for column := range x.Gain {
				if quiet := withGain(x, link, column, 0); impl.LinksValid(quiet) != (column != link) {
					t.Fatalf("%v are valid: %v", quiet, column == link)
				}
			}
		}
	})
}

func TestLinksWithNumbersOutOfRange(t *testing.T) {
	for _, x := range []impl.Links{linksOf(5, 10, 10, 1, 2, 10), linksOf(1000, 100, 1), linksOf(1, 1, 1000), evenLinks(3, 1000, 1, 1, 10), evenLinks(5, 1, 0, 1, 1), evenLinks(5, 1000, 1000, 1000, 100), mixedLinks(1, 4)} {
		for _, number := range outside(1, 1000) {
			wantRefusedLinks(t, withNoise(x, number))
		}
		for _, number := range outside(1, 100) {
			wantRefusedLinks(t, withTarget(x, number))
		}
		for row := range x.Gain {
			for column := range x.Gain[row] {
				for _, number := range outside(0, 1000) {
					wantRefusedLinks(t, withGain(x, row, column, number))
				}
			}
		}
		for _, number := range []int{-1, 0, math.MinInt} {
			wantRefusedLinks(t, withTarget(withNoise(x, number), number))
		}
	}
}

// Each row has as many numbers as there are rows.
func TestRowsOfOtherLengths(t *testing.T) {
	for count := 1; count <= 5; count++ {
		x := evenLinks(count, 1000, 1, 1, 10)
		for row := range count {
			for length := range 12 {
				if length != count {
					y := copyOfLinks(x)
					y.Gain[row] = repeated(1, length)
					wantRefusedLinks(t, y)
				}
			}
			for _, length := range []int{256, 256 + count, 65536 + count} {
				y := copyOfLinks(x)
				y.Gain[row] = repeated(1, length)
				wantRefusedLinks(t, y)
			}
			y := copyOfLinks(x)
			y.Gain[row] = nil
			wantRefusedLinks(t, y)
		}
	}
	for rows := range 12 {
		for columns := range 12 {
			if rows != columns || rows == 0 || rows > 5 {
				wantRefusedLinks(t, impl.Links{Gain: repeated(repeated(1, columns), rows), Noise: 1, Target: 10})
			}
		}
	}
	for _, rows := range []int{255, 256, 257, 258, 261} {
		wantRefusedLinks(t, impl.Links{Gain: repeated(repeated(1, rows), rows), Noise: 1, Target: 10})
	}
	wantRefusedLinks(t, impl.Links{})
	wantRefusedLinks(t, impl.Links{Noise: 1, Target: 10})
	wantRefusedLinks(t, impl.Links{Gain: [][]int{}, Noise: 1, Target: 10})
	wantRefusedLinks(t, evenLinks(6, 1000, 0, 1, 10))
}

func TestOtherPowers(t *testing.T) {
	for count := 1; count <= 5; count++ {
		for _, x := range []impl.Links{evenLinks(count, 1000, 1, 1, 1), evenLinks(count, 1, 0, 1, 10), evenLinks(count, 1000, 1000, 1000, 100)} {
			for length := range 12 {
				if length != count {
					wantRefusedPowers(t, x, repeated(0, length))
					wantRefusedPowers(t, x, repeated(100, length))
					wantRefusedPowers(t, x, repeated(10000, length))
				}
			}
			for _, length := range []int{256, 256 + count, 65536, 65536 + count} {
				wantRefusedPowers(t, x, repeated(10000, length))
			}
			wantRefusedPowers(t, x, nil)
			for _, number := range outside(0, 10000) {
				for link := range count {
					for _, power := range []int{0, 1, 5000, 10000} {
						wantRefusedPowers(t, x, changed(repeated(power, count), link, number))
					}
				}
				wantRefusedPowers(t, x, repeated(number, count))
			}
		}
	}
}

func guardedLinks(x impl.Links) (impl.Links, [][]int) {
	y := copyOfLinks(x)
	var wholes [][]int
	for row, gains := range y.Gain {
		list, whole := guarded(gains, 77)
		y.Gain[row] = list
		wholes = append(wholes, whole)
	}
	y.Gain, _ = guarded(y.Gain, []int{77})
	return y, wholes
}

func wantSameLinks(t *testing.T, x impl.Links, y impl.Links, wholes [][]int) {
	t.Helper()
	if len(x.Gain) != len(y.Gain) || x.Noise != y.Noise || x.Target != y.Target {
		t.Fatalf("the links are %v now, want %v", y, x)
	}
	for row, gains := range x.Gain {
		wantInts(t, "a row of gains", y.Gain[row], gains)
		wantInts(t, "a row of gains, and what is behind it", wholes[row], append(slices.Clone(gains), 77, 77, 77, 77))
	}
	for _, spare := range y.Gain[len(y.Gain):cap(y.Gain)][:4] {
		wantInts(t, "the rows behind the last one", spare, []int{77})
	}
}

func TestLinksArgumentsAreNotWritten(t *testing.T) {
	seed := 0
	check := func(x impl.Links, power []int) {
		y, wholes := guardedLinks(x)
		list, whole := guarded(power, 77)
		impl.LinksValid(y)
		impl.LinksMeet(y, list)
		next := impl.PowerStep(y, list)
		least, _ := impl.LeastPowers(y)
		overwrite(next, -5)
		overwrite(least, -6)
		wantSameLinks(t, x, y, wholes)
		wantInts(t, "the powers", whole, append(slices.Clone(power), 77, 77, 77, 77))
	}
	eachLinks(func(x impl.Links) {
		seed++
		for _, power := range somePowers(x, seed) {
			check(x, power)
		}
		check(withNoise(x, 0), repeated(1, len(x.Gain)))
		check(x, repeated(10001, len(x.Gain)))
	})
}

func TestPowersAreNewMemory(t *testing.T) {
	eachLinks(func(x impl.Links) {
		power, ok := impl.LeastPowers(x)
		want := slices.Clone(power)
		// The least powers are a fixed point, so that the argument itself could be returned.
		next := impl.PowerStep(x, power)
		overwrite(next, -1)
		wantInts(t, "the least powers", power, want)
		again, _ := impl.LeastPowers(x)
		overwrite(power, -2)
		wantInts(t, "the least powers again", again, want)
		overwrite(again, -3)
		wantLeastPowers(t, x, ok, want...)
		wantPowerStep(t, x, want, want...)
	})
}

// A call does not depend on the calls before it.
func TestLinksKeepNoState(t *testing.T) {
	list := slices.Concat(reachableLinks(), lostLinks())
	for _, x := range list {
		power, ok := impl.LeastPowers(x)
		next := impl.PowerStep(x, repeated(5, len(x.Gain)))
		for place := range list {
			y := list[len(list)-1-place]
			impl.LeastPowers(y)
			impl.PowerStep(y, repeated(9, len(y.Gain)))
			impl.LeastPowers(withNoise(y, 0))
			impl.PowerStep(y, nil)
			impl.LinksMeet(y, repeated(10000, len(y.Gain)))
		}
		wantLeastPowers(t, x, ok, power...)
		wantPowerStep(t, x, repeated(5, len(x.Gain)), next...)
	}
}
