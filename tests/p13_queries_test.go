package tests

import (
	"testing"

	"loop.example/g00798/impl"
)

// Layers at any place of a stack are replaced, and neither the view nor the effect on a tree changes.
func TestTheViewOfAReplacedStack(t *testing.T) {
	trees := append(append(someNodeLists(30), fullTrees()...), chainTrees()...)
	lengths := map[int]int{}
	for i, list := range append(someStacks(240), wideStacks(240)...) {
		view, _ := impl.ViewOf(list)
		start := trees[i%len(trees)]
		want, wantCode := impl.ApplyAll(list, start)
		for from := range len(list) + 1 {
			for to := from; to <= len(list); to++ {
				replaced, code := impl.Replaced(list, from, to)
				if code != 0 {
					continue
				}
				lengths[to-from]++
				checkView(t, replaced, view, 0)
				checkApplyAll(t, replaced, start, want, wantCode)
			}
		}
	}
	for n := range 6 {
		if lengths[n] < 20 {
			t.Errorf("the numbers of replaced layers in this test are %v", lengths)
		}
	}
}

// Layers are replaced again and again until one is left, also with empty layers in between.
func TestTheViewOfAStackReplacedAgainAndAgain(t *testing.T) {
	left := 0
	for _, list := range append(someStacks(120), wideStacks(120)...) {
		view, _ := impl.ViewOf(list)
		for step := 0; len(list) > 1; step++ {
			from := step % (len(list) - 1)
			next, code := impl.Replaced(list, from, from+2)
			if code != 0 {
				break
			}
			if step == 0 && len(next) < 5 {
				next, _ = impl.Replaced(next, from, from)
			}
			checkView(t, next, view, 0)
			list = next
		}
		if len(list) == 1 {
			left++
		}
	}
	if left < 50 {
		t.Errorf("only %d stacks of this test are replaced by one layer", left)
	}
}
