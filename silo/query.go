package silo

import (
	"cmp"
	"iter"
	"slices"
	"sync"

	"silo/api"
	"silo/blocks"
	"silo/sets"
)

// Query tells points (P10).
func (e *Engine) Query(series int, from int, to int) ([]api.Point, api.Errno) {
	if e.fault != api.OK {
		return nil, e.fault
	}
	if !sets.IsSeries(series) {
		return nil, api.ErrSeries
	}
	var found pile
	e.readBlocks(&found, series, from, to)
	memory := len(e.blocks)
	found.put(memory, e.frozen.Line(series).Between(from, to))
	found.put(memory+1, e.head.Line(series).Between(from, to))
	var told sets.Line
	told.Lay(found.upward())
	return slices.Collect(told.Points()), api.OK
}

// readBlocks reads all blocks at once; all have been read when it is over.
func (e *Engine) readBlocks(found *pile, series int, from int, to int) {
	var readers sync.WaitGroup
	defer readers.Wait()
	for height, b := range e.blocks {
		readers.Add(1)
		go func() {
			defer readers.Done()
			file := e.disk.Read(b.Name())
			found.put(height, blocks.Between(file, series, from, to))
		}()
	}
}

// layer is what one reader found. The higher one is laid on the lower ones.
type layer struct {
	height int
	points []api.Point
}

// pile is the one place for all that the readers of a query find.
type pile struct {
	mutex  sync.Mutex
	layers []layer
}

// put reads ahead of taking the lock, so that others may read as well.
func (p *pile) put(height int, points iter.Seq[api.Point]) {
	l := layer{height: height, points: slices.Collect(points)}
	p.mutex.Lock()
	defer p.mutex.Unlock()
	p.layers = append(p.layers, l)
}

// upward goes through all that was found, the lowest layer first, whichever
// reader was the quicker one. All of them must have ended: it takes no lock.
func (p *pile) upward() iter.Seq[api.Point] {
	return func(yield func(api.Point) bool) {
		slices.SortFunc(p.layers, byHeight)
		for _, l := range p.layers {
			for _, point := range l.points {
				if !yield(point) {
					return
				}
			}
		}
	}
}

func byHeight(a, b layer) int { return cmp.Compare(a.height, b.height) }
