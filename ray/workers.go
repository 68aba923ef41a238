package ray

import (
	"slices"
	"sync"
	"sync/atomic"

	"penumbra/api"
	"penumbra/dir"
)

// lookThrough tells the first fault: how many there are comes ahead of what they are.
func lookThrough(dirs []api.Dir) api.Errno {
	if len(dirs) > api.MaxDirs {
		return api.ErrLong
	}
	for i, d := range dirs {
		if err := dir.Check(d); err != api.OK {
			return err
		}
		if slices.Contains(dirs[:i], d) {
			return api.ErrTwice
		}
	}
	return api.OK
}

// byWorkers: each worker takes the next direction that none has taken, and writes only at that one's place, so that the answer is the same whoever came first.
func byWorkers(g api.Grid, dirs []api.Dir, workers int) []api.Proj {
	projs := make([]api.Proj, len(dirs))
	var taken atomic.Int64
	next := func() int { return int(taken.Add(1)) - 1 }
	var group sync.WaitGroup
	for range workers {
		group.Add(1)
		go func() {
			defer group.Done()
			for i := next(); i < len(dirs); i = next() {
				projs[i] = along(g, dirs[i])
			}
		}()
	}
	group.Wait()
	return projs
}
