"""Lists of colours, as pictures and films have them (points 107 and 111)."""

from stillroom.checks import is_integer_from
from stillroom.fields import read_low_first
from stillroom.grid import GREATEST_COLOUR

COLOUR_SIZE = 3
MOST_COLOURS = 255


def is_colour(value):
    """True if the value, of any kind, is a colour."""
    return is_integer_from(value, 0, GREATEST_COLOUR)


def is_colours(value):
    """True if the value, of any kind, is a tuple of at most 255 colours."""
    if not isinstance(value, tuple) or len(value) > MOST_COLOURS:
        return False
    return all([is_colour(colour) for colour in value])


def write_colours(colours):
    """The bytes of some colours: red, green and blue of each."""
    found = []
    for colour in colours:
        found.extend([colour >> 16, (colour >> 8) & 255, colour & 255])
    return found


def read_colours(data):
    """The list of the whole colours of a byte list."""
    return [read_colour(data[at:at + COLOUR_SIZE]) for at in range(0, len(data) - 2, COLOUR_SIZE)]


def read_colour(data):
    """The colour of the three bytes red, green and blue."""
    return read_low_first(data[::-1])
