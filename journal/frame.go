package journal

import "valise/api"

const growth = 2 * api.SectorSize // a journal's file is a multiple of it longer than the content: that many bytes 0 give a journal away of which nothing else came down

// frame: where the parts of a journal stand, and how long the file is with it.
type frame struct {
	bodyAt, sealAt, file int
}

// frameOf tells the frame of an update from old to size bytes that saves a body of so many bytes.
func frameOf(old, size, length int) frame {
	f := frame{bodyAt: up(max(old, size)), file: old + growth}
	if lacking := f.bodyAt + up(length) - sealPlace(f.file); lacking > 0 {
		f.file += (lacking + growth - 1) / growth * growth
	}
	f.sealAt = sealPlace(f.file)
	return f
}

// sealPlace tells where the last whole sector of so many bytes begins (below 0, if there is none).
func sealPlace(file int) int { return file/api.SectorSize*api.SectorSize - api.SectorSize }

// up tells the end of the last sector that so many bytes reach into.
func up(n int) int { return (n + api.SectorSize - 1) / api.SectorSize * api.SectorSize }
