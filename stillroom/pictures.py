"""Pictures (points 107 to 109)."""

from stillroom.colours import COLOUR_SIZE, MOST_COLOURS, read_colour, read_colours, write_colours
from stillroom.errors import Malformed
from stillroom.fields import stands
from stillroom.grid import NO_COLOUR, is_grid, is_side
from stillroom.measure import spend
from stillroom.rows import unpredict
from stillroom.samples import read_samples, rows_in_passes, write_samples
from stillroom.signs import PICTURE_SIGN

_HEAD_SIZE = 11

# The bits of the form.
_FOUR_BYTES = 1
_PREDICTED = 2
_TWO_PASSES = 4

# The index that is written for none.
_NO_INDEX = 255


def read_picture(data, left):
    """The tuple (grid or None, left)."""
    if not stands(data, 0, PICTURE_SIGN) or len(data) < _HEAD_SIZE:
        return None, left
    width, height, form, method, count = data[len(PICTURE_SIGN):_HEAD_SIZE]
    if not is_side(width) or not is_side(height):
        return None, left
    left, enough = spend(left, 1 + width * height)
    if not enough:
        return None, left
    end = _HEAD_SIZE + COLOUR_SIZE * count
    samples, left = read_samples(method, data[end:], left)
    length = 4 * width if form & _FOUR_BYTES else width
    if form & _PREDICTED:
        samples, left = unpredict(samples, length, left)
    passes = ((0, 2), (1, 2)) if form & _TWO_PASSES else ((0, 1),)
    colours = read_colours(data[_HEAD_SIZE:end])
    cells = []
    for row in rows_in_passes(samples, length, height, passes):
        cells.extend(_cells_of_row(row, width, form, colours))
    return (width, height, cells), left


def _cells_of_row(row, width, form, colours):
    if form & _FOUR_BYTES:
        cells = [_four_byte_cell(row[at:at + 4]) for at in range(0, len(row), 4)]
    else:
        cells = [colours[index] if index < len(colours) else NO_COLOUR for index in row]
    return cells + [NO_COLOUR] * (width - len(cells))


def _four_byte_cell(data):
    if len(data) < 4 or data[0] == 0:
        return NO_COLOUR
    return read_colour(data[1:])


def write_picture(grid):
    """The byte list of a grid. Raises Malformed if it is none."""
    if not is_grid(grid):
        raise Malformed("not a grid")
    width, height, cells = grid
    indexes = _indexes(cells)
    if len(indexes) <= MOST_COLOURS:
        form = 0
        colours = list(indexes)
        samples = [indexes.get(cell, _NO_INDEX) for cell in cells]
    else:
        form = _FOUR_BYTES
        colours = []
        samples = _four_byte_samples(cells)
    method, data = write_samples(samples)
    head = list(PICTURE_SIGN) + [width, height, form, method, len(colours)]
    return head + write_colours(colours) + data


def _indexes(cells):
    """The dict of the indexes of the colours, in the order in which they first come."""
    indexes = {}
    for cell in cells:
        if cell != NO_COLOUR:
            indexes.setdefault(cell, len(indexes))
    return indexes


def _four_byte_samples(cells):
    samples = []
    for cell in cells:
        samples.extend([0, 0, 0, 0] if cell == NO_COLOUR else [1] + write_colours([cell]))
    return samples
