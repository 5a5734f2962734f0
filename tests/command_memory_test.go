package tests

import (
	"strings"
	"sync"
	"testing"

	"loop.example/fewrelations/impl"
)

// A script begins anew, whatever the scripts ahead of it have left, and those that were too long.
func TestScriptsKeepNothingBetweenCalls(t *testing.T) {
	for text := range fewScripts(maxScript) {
		output := impl.Execute(text)
		for _, between := range []string{"points 4\nother\n", "rows 1\n", "rows x\nzzz\n", strings.Repeat("\n", maxScript+1), "pair 0 1"} {
			impl.Execute(between)
			wantOutput(t, text, output)
		}
		wantOutput(t, "show\nkinds\n", "0 0 0\nisatfj\npairs 0\n")
	}
}

func TestScriptsAtTheSameTime(t *testing.T) {
	var workers sync.WaitGroup
	for worker := range 8 {
		workers.Go(func() {
			place := 0
			for text := range fewScripts(maxScript) {
				place++
				if place%8 == worker || place%3 == 0 {
					if got, want := impl.Execute(text), modelOutput(text); got != want {
						t.Errorf("Execute(%q) returned %q, and not %q", text, got, want)
					}
				}
			}
		})
	}
	workers.Wait()
}
