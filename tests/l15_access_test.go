package tests

import (
	"slices"
	"testing"

	"loop.example/softwareradio/impl"
)

// modelAlone compares every two senders.
func modelAlone(choices []int) []int {
	var alone []int
	for sender, slot := range choices {
		lonely := true
		for other, used := range choices {
			lonely = lonely && (other == sender || used != slot)
		}
		if lonely {
			alone = append(alone, sender)
		}
	}
	return alone
}

// modelNextSeeds are the next seeds of all seeds in ascending order: from one seed to the next greater one the product increases by its factor.
func modelNextSeeds() []int {
	list := make([]int, 2048)
	next := 1
	for seed := range list {
		list[seed] = next
		next += 1229
		if next >= 2048 {
			next -= 2048
		}
	}
	return list
}

// modelBackoff adds up the binary digits of a seed that count, above the lowest three.
func modelBackoff(seed int, attempts int) int {
	sum := 0
	for place, digit := range []int{8, 16, 32, 64, 128, 256} {
		if place < attempts && seed/digit%2 == 1 {
			sum += digit / 8
		}
	}
	return sum
}

// modelRun looks at every slot below a number of slots, whether it is used or not, and returns the slots of the successes and how often each sender failed.
func modelRun(seeds []int, slots int) ([]int, []int) {
	table := modelNextSeeds()
	seeds = slices.Clone(seeds)
	failures, next, successes := repeated(0, len(seeds)), repeated(0, len(seeds)), repeated(-1, len(seeds))
	for slot := range slots {
		var here []int
		for sender := range seeds {
			if next[sender] == slot && successes[sender] < 0 {
				here = append(here, sender)
			}
		}
		for _, sender := range here {
			if len(here) == 1 {
				successes[sender] = slot
				break
			}
			failures[sender]++
			seeds[sender] = table[seeds[sender]]
			next[sender] = slot + 1 + modelBackoff(seeds[sender], failures[sender])
		}
	}
	return successes, failures
}

// modelSuccesses is for two senders: the first time that they wait for different slots, both succeed.
func modelSuccesses(first int, second int, table []int) []int {
	a, b := 0, 0
	for failures := 1; a == b; failures++ {
		if a >= 400 {
			return []int{-1, -1}
		}
		first, second = table[first], table[second]
		a += 1 + modelBackoff(first, failures)
		b += 1 + modelBackoff(second, failures)
	}
	return []int{a, b}
}

func mixedSeeds(seed int, count int, most int) []int {
	list := make([]int, count)
	for sender := range list {
		list[sender] = int(mixed(seed, sender) % uint64(most+1))
	}
	return list
}

// mixedGroups have few different seeds, so that some of the senders never succeed and disturb the others up to the end; seeds whose last nine digits are equal wait for the same slots.
func mixedGroups(seed int, count int) []int {
	groups := 1 + int(mixed(seed, 20)%uint64(max(count, 1)))
	list := make([]int, count)
	for sender := range list {
		group := int(mixed(seed, sender) % uint64(groups))
		list[sender] = int(mixed(seed, 100+group)%512 + 512*(mixed(seed, 200+sender)%4))
	}
	return list
}

// lateRun has the slots in which senders would succeed if there were 480 slots.
type lateRun struct {
	seeds     []int
	successes []int
}

// lateRuns have a sender that collides up to the last slot or its neighbourhood. In the slots 397, 398 and 400 to 404 no sender of up to eight ever succeeds.
func lateRuns() []lateRun {
	return []lateRun{
		// The first sender sends in the slots 0, 1, 2, 3, 7, 28, 65, 111, 146, 192, 240, 276, 335 and 399, and it is alone in the last one.
		{[]int{223, 221, 487, 364, 479, 364, 487, 221}, []int{399, -1, -1, -1, 47, -1, -1, -1}},
		{[]int{197, 2, 325, 453, 69, 2, 325, 69}, []int{396, -1, -1, 356, -1, -1, -1, -1}},
		{[]int{453, 169, 5, 169, 5, 325, 197, 69}, []int{405, -1, -1, -1, -1, 357, 341, 292}},
		{[]int{453, 227, 227, 197, 197, 55, 55, 69}, []int{405, -1, -1, -1, -1, -1, -1, 62}},
		{[]int{472, 312, 150, 150, 312, 306, 306, 216}, []int{413, -1, -1, -1, -1, -1, -1, 60}},
		{[]int{469, 207, 207, 264, 264, 43, 43, 213}, []int{414, -1, -1, -1, -1, -1, -1, 219}},
		{[]int{9, 469, 213, 9, 169, 369, 369, 169}, []int{-1, 450, 70, -1, -1, -1, -1, -1}},
		{[]int{373, 213, 229, 213, 485, 36, 36, 373}, []int{-1, -1, 428, -1, 141, -1, -1, -1}},
	}
}

// eachSeeds calls a test with seeds of no sender up to eight ones: at the bounds, equal, in a row, and mixed, with and without senders that never succeed.
func eachSeeds(test func(seeds []int)) {
	for count := range 9 {
		for _, seed := range []int{0, 1, 5, 1023, 1024, 2046, 2047} {
			test(repeated(seed, count))
			for place := range count {
				test(changed(repeated(seed, count), place, 2047-seed))
				test(changed(repeated(seed, count), place, (seed+512)%2048))
			}
		}
		for seed := range 300 {
			test(mixedSeeds(seed, count, 2047))
			test(mixedSeeds(seed, count, 15))
			test(mixedGroups(seed, count))
			row := repeated(seed, count)
			for sender := range row {
				row[sender] = (37*seed + sender*(1+seed%100)) % 2048
			}
			test(row)
		}
	}
	for _, run := range lateRuns() {
		test(run.seeds)
	}
}

// eachChoices calls a test with slots of no sender up to eight ones: all lists of few slots, the bounds included, and mixed ones.
func eachChoices(test func(choices []int)) {
	for _, list := range slices.Concat(listsOf([]int{0, 200, 399}, 8), listsOf([]int{0, 1, 2, 398, 399}, 5)) {
		test(list)
	}
	for count := range 9 {
		for seed := range 200 {
			test(mixedSeeds(seed, count, 399))
			test(mixedSeeds(seed, count, 12))
		}
		for first := 0; first+count <= 400; first++ {
			row := places(first + count)[first:]
			test(row)
			test(reversed(row))
		}
	}
}

func reversed(list []int) []int {
	list = slices.Clone(list)
	slices.Reverse(list)
	return list
}

func wantAlone(t *testing.T, choices []int, want ...int) {
	t.Helper()
	if alone := impl.SlotSuccess(choices); !slices.Equal(alone, want) {
		t.Fatalf("in the slots %v the senders %v are alone, want %v", choices, alone, want)
	}
}

func wantRun(t *testing.T, seeds []int, want ...int) {
	t.Helper()
	if successes := impl.AccessRun(seeds); !slices.Equal(successes, want) {
		t.Fatalf("with the seeds %v the senders succeed in the slots %v, want %v", seeds, successes, want)
	}
}

func wantBackoff(t *testing.T, seed int, attempts int, want int) {
	t.Helper()
	if slots := impl.BackoffSlots(seed, attempts); slots != want {
		t.Fatalf("with the seed %d and %d attempts a sender waits %d slots, want %d", seed, attempts, slots, want)
	}
}

func wantNextSeed(t *testing.T, seed int, want int) {
	t.Helper()
	if next := impl.NextSeed(seed); next != want {
		t.Fatalf("the seed behind %d is %d, want %d", seed, next, want)
	}
}

func TestAccessExamples(t *testing.T) {
	wantAlone(t, nil)
	wantAlone(t, []int{7}, 0)
	wantAlone(t, []int{1, 2, 1}, 1)
	wantAlone(t, []int{399, 0, 5, 0, 398, 5, 5, 1}, 0, 4, 7)
	wantNextSeed(t, 0, 1)
	wantNextSeed(t, 1, 1230)
	wantNextSeed(t, 2, 411)
	wantNextSeed(t, 5, 2)
	wantNextSeed(t, 2047, 820)
	// 1000 / 8 is 125, which is 1111101 in binary.
	for attempts, want := range []int{-1, 1, 1, 5, 13, 29, 61, 61, 61} {
		wantBackoff(t, 1000, attempts, want)
	}
	wantRun(t, nil)
	wantRun(t, []int{7}, 0)
	wantRun(t, []int{5, 77}, 1, 2)
	// Both senders send in the slots 0 and 1, where the next seeds are 1 and 820, then 1230 and 165.
	wantRun(t, []int{0, 2047}, 3, 2)
	wantRun(t, []int{450, 9, 2047}, 3, 5, 7)
	wantRun(t, []int{0, 8, 16, 24, 32, 40, 48, 56}, 32, 38, 18, 22, 52, 13, 26, 60)
	wantRun(t, []int{0, 1, 2, 3, 4, 5, 6, 7}, 20, 7, 8, 11, 9, 45, 17, 21)
	wantRun(t, []int{5, 517, 77, 589, 1000}, -1, -1, -1, -1, 13)
}

// Promise 81: a sender succeeds exactly if no other one has its slot.
func TestOnlyLonelySendersSucceed(t *testing.T) {
	none, some, all := 0, 0, 0
	eachChoices(func(choices []int) {
		want := modelAlone(choices)
		wantAlone(t, choices, want...)
		switch len(want) {
		case len(choices):
			all++
		case 0:
			none++
		default:
			some++
		}
	})
	for slot := range 400 {
		wantAlone(t, []int{slot}, 0)
		for other := range 400 {
			if slot == other {
				wantAlone(t, []int{slot, other})
			} else {
				wantAlone(t, []int{slot, other}, 0, 1)
			}
		}
		for count := 2; count <= 8; count++ {
			wantAlone(t, repeated(slot, count))
			for place := range count {
				if count > 2 {
					wantAlone(t, changed(repeated(slot, count), place, 399-slot), place)
				}
			}
		}
	}
	if none < 1000 || some < 1000 || all < 1000 {
		t.Fatalf("none are alone in %d lists, some in %d, all in %d", none, some, all)
	}
}

// Promise 81: with a further sender in a slot its only sender does not succeed any more, and the others do as before.
func TestFurtherSendersDisturb(t *testing.T) {
	disturbed := 0
	eachChoices(func(choices []int) {
		if len(choices) == 0 || len(choices) == 8 {
			return
		}
		alone := impl.SlotSuccess(choices)
		for sender, slot := range choices {
			want := slices.DeleteFunc(slices.Clone(alone), func(other int) bool { return other == sender })
			disturbed += len(alone) - len(want)
			wantAlone(t, append(slices.Clone(choices), slot), want...)
			for place := range want {
				want[place]++
			}
			wantAlone(t, append([]int{slot}, choices...), want...)
		}
		for _, slot := range []int{0, 1, 7, 200, 398, 399} {
			if !slices.Contains(choices, slot) {
				wantAlone(t, append(slices.Clone(choices), slot), append(slices.Clone(alone), len(choices))...)
			}
		}
	})
	if disturbed < 10000 {
		t.Fatalf("only %d senders are disturbed", disturbed)
	}
}

// Promise 82: the next seed is in 0..MaxSeed; different seeds have different next seeds, and every state is visited.
func TestSeedsVisitEveryState(t *testing.T) {
	table := modelNextSeeds()
	before := repeated(-1, 2048)
	for seed := range 2048 {
		next := impl.NextSeed(seed)
		wantNextSeed(t, seed, table[seed])
		if next < 0 || next > 2047 || before[next] >= 0 {
			t.Fatalf("the seed behind %d is %d, as behind %d", seed, next, before[next&2047])
		}
		before[next] = seed
	}
	seed := 0
	visited := make([]bool, 2048)
	for steps := range 2048 {
		if visited[seed] {
			t.Fatalf("after %d steps the seed is %d again", steps, seed)
		}
		visited[seed] = true
		seed = impl.NextSeed(seed)
	}
	if seed != 0 {
		t.Fatalf("after all seeds the next one is %d", seed)
	}
}

func TestSeedsOutOfRange(t *testing.T) {
	for _, seed := range outside(0, 2047) {
		wantNextSeed(t, seed, 0)
		for attempts := range 103 {
			wantBackoff(t, seed, attempts-1, -1)
		}
		wantRun(t, []int{seed})
		for count := 1; count <= 8; count++ {
			for place := range count {
				wantRun(t, changed(repeated(0, count), place, seed))
				wantRun(t, changed(repeated(2047, count), place, seed))
				wantRun(t, changed(mixedSeeds(count, count, 2047), place, seed))
			}
			wantRun(t, repeated(seed, count))
		}
	}
}

// Promise 83: the number is less than 2 to the power of the attempts, and less than 64; with one attempt more it is the same or greater by that power.
func TestLaterAttemptsWaitInLongerRanges(t *testing.T) {
	for seed := range 2048 {
		power := 1
		for attempts := 1; attempts <= 100; attempts++ {
			slots := impl.BackoffSlots(seed, attempts)
			wantBackoff(t, seed, attempts, modelBackoff(seed, attempts))
			power = min(2*power, 64)
			if slots < 0 || slots >= power {
				t.Fatalf("with the seed %d and %d attempts a sender waits %d slots", seed, attempts, slots)
			}
			more := impl.BackoffSlots(seed, attempts+1)
			if attempts < 100 && more != slots && (attempts >= 6 || more != slots+power) {
				t.Fatalf("with the seed %d a sender waits %d slots after %d attempts, and %d after one more", seed, slots, attempts, more)
			}
		}
	}
}

// Every number in the range is reached equally often.
func TestAllWaitsAreUsed(t *testing.T) {
	for _, attempts := range []int{1, 2, 3, 4, 5, 6, 7, 100} {
		counts := make([]int, 1<<min(attempts, 6))
		for seed := range 2048 {
			counts[impl.BackoffSlots(seed, attempts)]++
		}
		wantInts(t, "how often each wait is used", counts, repeated(2048/len(counts), len(counts)))
	}
}

func TestAttemptsOutOfRange(t *testing.T) {
	for _, attempts := range outside(1, 100) {
		for _, seed := range []int{0, 1, 7, 8, 100, 511, 1000, 2040, 2046, 2047, -1, 2048} {
			wantBackoff(t, seed, attempts, -1)
		}
	}
	for seed := range 2048 {
		wantBackoff(t, seed, 0, -1)
		wantBackoff(t, seed, -1, -1)
		wantBackoff(t, seed, 101, -1)
	}
}

func TestChoicesOutOfRange(t *testing.T) {
	for _, slot := range outside(0, 399) {
		for count := 1; count <= 8; count++ {
			for place := range count {
				wantAlone(t, changed(repeated(0, count), place, slot))
				wantAlone(t, changed(repeated(399, count), place, slot))
				wantAlone(t, changed(places(count), place, slot))
			}
			wantAlone(t, repeated(slot, count))
		}
	}
}

func TestTooManySenders(t *testing.T) {
	for _, count := range []int{9, 10, 15, 16, 17, 100, 255, 256, 257, 264, 400} {
		wantAlone(t, places(count))
		wantRun(t, places(count))
		for _, number := range []int{0, 1, 399} {
			wantAlone(t, repeated(number, count))
			wantAlone(t, changed(repeated(number, count), count-1, 5))
			wantRun(t, repeated(number, count))
			wantRun(t, changed(repeated(number, count), count-1, 5))
		}
	}
	for _, count := range []int{65536, 65537, 65544} {
		wantAlone(t, changed(repeated(0, count), 3, 5))
		wantRun(t, repeated(0, count))
	}
	for seed := range 100 {
		wantAlone(t, mixedSeeds(seed, 9, 399))
		wantRun(t, mixedSeeds(seed, 9, 2047))
	}
	wantAlone(t, append(places(8), -1))
	wantRun(t, append(places(8), 2048))
}

// Promise 14: a single sender succeeds in slot 0; two senders with equal seeds never succeed.
func TestSinglesAndEqualPairs(t *testing.T) {
	for seed := range 2048 {
		wantRun(t, []int{seed}, 0)
		wantRun(t, []int{seed, seed}, -1, -1)
	}
}

// All pairs of seeds.
func TestPairs(t *testing.T) {
	table := modelNextSeeds()
	for first := range 2048 {
		for second := first; second < 2048; second++ {
			want := modelSuccesses(first, second, table)
			wantRun(t, []int{first, second}, want...)
			if second%16 == 0 {
				wantRun(t, []int{second, first}, want[1], want[0])
			}
		}
	}
}

func TestRuns(t *testing.T) {
	counts := make([]int, 402)
	eachSeeds(func(seeds []int) {
		want, _ := modelRun(seeds, 400)
		wantRun(t, seeds, want...)
		for _, slot := range want {
			counts[slot+1]++
		}
	})
	late := numberSum(counts[201:])
	if counts[0] < 1000 || counts[401] > 0 || late < 5 {
		t.Fatalf("%d senders never succeed, %d in slot 400, %d in the second half of the slots", counts[0], counts[401], late)
	}
}

// Promise 14: senders that succeed do so in different slots.
func TestMessagesDoNotCollide(t *testing.T) {
	eachSeeds(func(seeds []int) {
		successes := impl.AccessRun(seeds)
		if len(successes) != len(seeds) {
			t.Fatalf("%d of %d senders have a result", len(successes), len(seeds))
		}
		for sender, slot := range successes {
			if slot < -1 || slot > 399 || slot == 0 && len(seeds) > 1 {
				t.Fatalf("with the seeds %v a sender succeeds in slot %d", seeds, slot)
			}
			if slot >= 0 && slices.Contains(successes[:sender], slot) {
				t.Fatalf("with the seeds %v two senders succeed in slot %d", seeds, slot)
			}
		}
	})
}

// Promise 14: senders with equal seeds never succeed, whoever else sends. Those of which the last nine digits of the seeds are equal do not either, because they always wait equally long.
func TestSendersThatNeverSucceed(t *testing.T) {
	for count := 2; count <= 8; count++ {
		for seed := 0; seed < 2048; seed += 5 {
			wantRun(t, repeated(seed, count), repeated(-1, count)...)
		}
	}
	for seed := range 512 {
		wantRun(t, []int{seed, seed + 512, seed + 1024, seed + 1536}, -1, -1, -1, -1)
		wantRun(t, []int{seed + 1024, seed}, -1, -1)
	}
	succeeded := 0
	eachSeeds(func(seeds []int) {
		successes := impl.AccessRun(seeds)
		for sender, slot := range successes {
			for other := range sender {
				if seeds[sender]%512 == seeds[other]%512 && (slot >= 0 || successes[other] >= 0) {
					t.Fatalf("with the seeds %v the senders succeed in the slots %v", seeds, successes)
				}
			}
			if slot >= 0 && slices.Contains(successes, -1) {
				succeeded++
			}
		}
	})
	if succeeded < 500 {
		t.Fatalf("only %d senders succeed beside ones that never do", succeeded)
	}
}

// One sender at each place beside a pair that never succeeds.
func TestSenderBesideAPair(t *testing.T) {
	for seed := 0; seed < 2048; seed += 3 {
		for _, other := range []int{0, 1, 77, 1000, 2047, seed ^ 256, seed ^ 128, seed ^ 8, seed ^ 1} {
			want, _ := modelRun([]int{other, seed, seed}, 400)
			if other%512 != seed%512 && (want[0] < 0 || want[1] >= 0 || want[2] >= 0) {
				t.Fatalf("with the seeds %d, %d and %d the slots are %v", other, seed, seed, want)
			}
			wantRun(t, []int{other, seed, seed}, want...)
			wantRun(t, []int{seed, other, seed}, want[1], want[0], want[2])
			wantRun(t, []int{seed, seed, other}, want[1], want[2], want[0])
		}
	}
}

// A sender may succeed in the last slot; a success behind it does not count.
func TestLastSlots(t *testing.T) {
	inLast, behind := 0, 0
	for _, run := range lateRuns() {
		longer, _ := modelRun(run.seeds, 480)
		wantInts(t, "the slots of the successes, with more slots", longer, run.successes)
		want := slices.Clone(run.successes)
		for sender, slot := range want {
			if slot == 399 {
				inLast++
			}
			if slot > 399 {
				behind++
				want[sender] = -1
			}
		}
		wantRun(t, run.seeds, want...)
		wantRun(t, reversed(run.seeds), reversed(want)...)
		for seed := range 50 {
			// The highest two digits of a seed never matter.
			seeds := slices.Clone(run.seeds)
			for sender := range seeds {
				seeds[sender] += 512 * int(mixed(seed, sender)%4)
			}
			wantRun(t, seeds, want...)
		}
	}
	if inLast == 0 || behind < 5 {
		t.Fatalf("%d senders succeed in the last slot, %d behind it", inLast, behind)
	}
}

// The slots do not allow more than 100 failures, so the wait after 100 attempts is never used for more.
func TestFailuresAreFew(t *testing.T) {
	most := 0
	for seed := range 2048 {
		_, failures := modelRun([]int{seed, seed}, 400)
		most = max(most, failures[0])
		slot, state := 0, seed
		for attempts := 1; slot < 400; attempts++ {
			if attempts > 100 {
				t.Fatalf("a sender with the seed %d fails more than 100 times", seed)
			}
			state = impl.NextSeed(state)
			slot += 1 + impl.BackoffSlots(state, attempts)
		}
	}
	if most < 20 || most > 100 {
		t.Fatalf("a sender fails at most %d times", most)
	}
}

// Promise 141: with the seeds in the opposite order the results are in the opposite order.
func TestOrderOfSendersDoesNotMatter(t *testing.T) {
	eachSeeds(func(seeds []int) {
		successes := impl.AccessRun(seeds)
		wantRun(t, reversed(seeds), reversed(successes)...)
		for turn := range seeds {
			wantRun(t, slices.Concat(seeds[turn:], seeds[:turn]), slices.Concat(successes[turn:], successes[:turn])...)
		}
		for sender := 1; sender < len(seeds); sender++ {
			swapped, want := slices.Clone(seeds), slices.Clone(successes)
			swapped[0], swapped[sender] = swapped[sender], swapped[0]
			want[0], want[sender] = want[sender], want[0]
			wantRun(t, swapped, want...)
		}
	})
}

func TestAccessArgumentsAreNotWritten(t *testing.T) {
	check := func(numbers []int) {
		list, whole := guarded(numbers, 77)
		alone, successes := impl.SlotSuccess(list), impl.AccessRun(list)
		overwrite(alone, -5)
		overwrite(successes, -6)
		wantInts(t, "the argument, and what is behind it", whole, append(slices.Clone(numbers), 77, 77, 77, 77))
	}
	eachSeeds(check)
	eachChoices(check)
	check([]int{5, -1, 5})
	check([]int{5, 400, 2048, 5})
	check(repeated(3, 9))
}

func TestAccessResultsAreNewMemory(t *testing.T) {
	eachSeeds(func(seeds []int) {
		successes := impl.AccessRun(seeds)
		want := slices.Clone(successes)
		overwrite(impl.AccessRun(seeds), -7)
		wantInts(t, "the slots of the successes", successes, want)
		overwrite(successes, -8)
		wantRun(t, seeds, want...)
	})
	eachChoices(func(choices []int) {
		alone := impl.SlotSuccess(choices)
		want := slices.Clone(alone)
		overwrite(impl.SlotSuccess(choices), -7)
		wantInts(t, "the senders that are alone", alone, want)
		overwrite(alone, -8)
		wantAlone(t, choices, want...)
	})
}

// A call does not depend on the calls before it.
func TestAccessKeepsNoState(t *testing.T) {
	runs := lateRuns()
	for _, run := range runs {
		successes := impl.AccessRun(run.seeds)
		for _, other := range runs {
			impl.AccessRun(other.seeds)
			impl.AccessRun(append(slices.Clone(other.seeds), 5))
			impl.AccessRun(changed(other.seeds, 3, -1))
			impl.SlotSuccess(changed(other.seeds, 0, 1))
			impl.NextSeed(other.seeds[0])
			impl.BackoffSlots(other.seeds[0], 3)
		}
		wantRun(t, run.seeds, successes...)
	}
}
