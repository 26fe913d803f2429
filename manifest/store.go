package manifest

import (
	"skerry/api"
	"skerry/disk"
)

const (
	file  = "manifest"
	spare = "manifest.new" // where a manifest is written, so that the one that is there stays till it is sure
)

// Load: a disk's.
func Load(d *disk.Disk) (Manifest, api.Errno) {
	b, e := d.Read(file)
	switch e {
	case api.OK:
		return Read(b)
	case api.ErrNone:
		return Begin(), api.OK
	}
	return Manifest{}, e
}

// Store: it is the disk's.
func Store(d *disk.Disk, m Manifest) api.Errno {
	var b []byte
	return inTurn(
		func() api.Errno { return refusal(d) },
		func() (e api.Errno) { b, e = Bytes(m); return e },
		func() api.Errno { return d.Create(spare) },
		func() api.Errno { return d.Append(spare, b) },
		func() api.Errno { return d.Sync(spare) },
		func() api.Errno { return d.Rename(spare, file) },
	)
}

// inTurn does steps, one behind the other, up to the first one that fails.
func inTurn(steps ...func() api.Errno) api.Errno {
	for _, step := range steps {
		if e := step(); e != api.OK {
			return e
		}
	}
	return api.OK
}

// refusal: what is wrong with a disk, whatever is stored on it.
func refusal(d *disk.Disk) api.Errno {
	// A name that may not be: the disk tells what is wrong with itself ahead of that, and nothing is done.
	if _, e := d.Read(""); e != api.ErrName {
		return e
	}
	return api.OK
}
