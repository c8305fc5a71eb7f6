package journal

import (
	"consignor/api"
	"consignor/disk"
)

// step is a change of a disk.
type step func(d *disk.Disk) api.Errno

// inOrder does steps, up to the first one that tells an error.
func inOrder(d *disk.Disk, steps ...step) api.Errno {
	for _, do := range steps {
		if e := do(d); e != api.OK {
			return e
		}
	}
	return api.OK
}

func create(n int) step {
	return func(d *disk.Disk) api.Errno { return d.Create(n) }
}

func add(n int, s string) step {
	return func(d *disk.Disk) api.Errno { return d.Append(n, s) }
}

func sync(n int) step {
	return func(d *disk.Disk) api.Errno { return d.Sync(n) }
}

func truncate(n, size int) step {
	return func(d *disk.Disk) api.Errno { return d.Truncate(n, size) }
}

func remove(n int) step {
	return func(d *disk.Disk) api.Errno { return d.Delete(n) }
}
