"""Grids of cells, and boxes (points 100 and 101)."""

from stillroom.checks import is_integer_from, is_tuple_of
from stillroom.errors import OutOfRange
from stillroom.outlines import bounded

NO_COLOUR = -1
GREATEST_COLOUR = 16777215
GREATEST_SIDE = 64


def is_side(value):
    """True if the value is a side of a grid."""
    return is_integer_from(value, 1, GREATEST_SIDE)


def is_cell(value):
    """True if the value is a colour or none."""
    return is_integer_from(value, NO_COLOUR, GREATEST_COLOUR)


def is_grid(value):
    """True if the value, of any kind, is a grid."""
    if not is_tuple_of(value, 3):
        return False
    width, height, cells = value
    if not is_side(width) or not is_side(height):
        return False
    if not isinstance(cells, list) or len(cells) != width * height:
        return False
    return all([is_cell(cell) for cell in cells])


def new_grid(width, height, colour):
    """A grid of this colour. Raises OutOfRange if one of the three is not within its bounds."""
    if not is_side(width) or not is_side(height):
        raise OutOfRange("a side is not from 1 to 64")
    if not is_cell(colour):
        raise OutOfRange("not a colour, and not none")
    return width, height, [colour] * (width * height)


def middle(at):
    """The place of the middle of a cell, in one direction, in units."""
    return 4 * at + 2


def in_box(x, y, box):
    """True if the place is in the box."""
    x0, y0, x1, y1 = [bounded(number) for number in box]
    return x0 <= bounded(x) < x1 and y0 <= bounded(y) < y1
