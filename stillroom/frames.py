"""The frames of films (points 110, 111 and 113)."""

from stillroom.checks import is_integer_from, is_tuple_of
from stillroom.colours import COLOUR_SIZE, is_colours, read_colours, write_colours
from stillroom.fields import read_low_first, write_low_first
from stillroom.measure import spend
from stillroom.samples import read_samples, rows_in_passes, write_samples

HEAD_SIZE = 11
GREATEST_DELAY = 65535
_GREATEST_AFTER = 2

# The bits of the flags.
_OWN_COLOURS = 1
_HAS_CLEAR = 2
_FOUR_PASSES = 4

NO_CLEAR = -1
_NO_INDEX = 255


def is_frame(value):
    """True if the value, of any kind, has the form of a frame."""
    if not is_tuple_of(value, 9):
        return False
    x, y, width, height, own, clear, after, delay, indexes = value
    if not all([_is_byte(number) for number in (x, y, width, height)]):
        return False
    if own is not None and not is_colours(own):
        return False
    if not is_integer_from(clear, NO_CLEAR, 255) or not is_integer_from(after, 0, _GREATEST_AFTER):
        return False
    if not is_integer_from(delay, 0, GREATEST_DELAY) or not is_tuple_of(indexes, width * height):
        return False
    return all([_is_byte(index) for index in indexes])


def _is_byte(value):
    return is_integer_from(value, 0, 255)


def write_frame(frame):
    """The byte list of a frame."""
    x, y, width, height, own, clear, after, delay, indexes = frame
    colours = [] if own is None else list(own)
    flags = 0 if own is None else _OWN_COLOURS
    if clear != NO_CLEAR:
        flags += _HAS_CLEAR
    method, data = write_samples(list(indexes))
    head = [x, y, width, height, flags, after, max(clear, 0)] + write_low_first(delay, 2)
    return head + [method, len(colours)] + write_colours(colours) + data


def read_frame(data, left):
    """The tuple (frame, or None if its cost is too great; left) of at least 11 bytes."""
    x, y, width, height, flags, after, clear = data[:7]
    left, enough = spend(left, 1 + width * height)
    if not enough:
        return None, left
    own = None
    end = HEAD_SIZE
    if flags & _OWN_COLOURS:
        end += COLOUR_SIZE * data[HEAD_SIZE - 1]
        own = tuple(read_colours(data[HEAD_SIZE:end]))
    samples, left = read_samples(data[9], data[end:], left)
    if not flags & _HAS_CLEAR:
        clear = NO_CLEAR
    if after > _GREATEST_AFTER:
        after = 0
    indexes = _indexes(samples, width, height, flags)
    return (x, y, width, height, own, clear, after, read_low_first(data[7:9]), indexes), left


def _indexes(samples, width, height, flags):
    passes = ((0, 8), (4, 8), (2, 4), (1, 2)) if flags & _FOUR_PASSES else ((0, 1),)
    indexes = []
    for row in rows_in_passes(samples, width, height, passes):
        indexes.extend(row + [_NO_INDEX] * (width - len(row)))
    return tuple(indexes)
