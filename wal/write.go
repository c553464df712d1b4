package wal

import (
	"manometer/api"
	"manometer/frame"
)

// Append puts b behind all records, in the next segment, if it has no place in this one.
func (l *Log) Append(b []byte) api.Errno {
	if !l.made() {
		return api.ErrMade
	}
	f, err := frame.Put(b)
	if err != api.OK {
		return err
	}
	to := l.segment
	if has := l.has(to); has > 0 && has+len(f) > api.MaxSegment {
		to++
	}
	if err := l.takes(to, len(f)); err != api.OK { // asked ahead of Roll: what is refused does not roll
		return err
	}
	if to > l.segment {
		if err := l.Roll(); err != api.OK {
			return err
		}
	}
	if err := l.disk.Append(Title(to), f); err != api.OK {
		return err
	}
	l.count++
	return api.OK
}

// takes tells why so many bytes may not be written to the segment of the number n.
func (l *Log) takes(n, size int) api.Errno {
	if n > api.MaxSegments || size > l.disk.Room()-l.disk.Size() {
		return api.ErrFull
	}
	if _, err := l.disk.Lasts(Title(n)); err == api.ErrNone && len(l.disk.List()) >= api.MaxFiles {
		return api.ErrLong
	}
	return api.OK
}

// Sync makes all records last. A segment without a file has nothing that could be lost.
func (l *Log) Sync() api.Errno {
	if !l.made() {
		return api.ErrMade
	}
	if err := l.disk.Sync(Title(l.segment)); err != api.OK && err != api.ErrNone {
		return err
	}
	l.sure = l.count
	return api.OK
}

// Roll goes on to the next segment, if this one has bytes; it is synced ahead, so that only the last one is ever torn.
func (l *Log) Roll() api.Errno {
	if !l.made() {
		return api.ErrMade
	}
	if l.segment == api.MaxSegments {
		return api.ErrFull
	}
	if err := l.Sync(); err != api.OK {
		return err
	}
	if l.has(l.segment) > 0 {
		l.segment++
	}
	return api.OK
}

// Drop removes the segments below that of the number n.
func (l *Log) Drop(n int) api.Errno {
	if !l.made() {
		return api.ErrMade
	}
	if n > l.segment {
		return api.ErrArg
	}
	for _, old := range segments(l.disk) {
		if old >= n {
			break
		}
		if err := l.disk.Remove(Title(old)); err != api.OK {
			return err
		}
	}
	return api.OK
}
