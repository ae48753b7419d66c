"""Books in the object language, and their pages, for the tests of layouts."""

from stillroom.pages import lay_out
from stillroom.reading import read_book

ENOUGH = 10 ** 9
SIDE = 16
PAGE_BOX = (0, 0, 4 * SIDE, 4 * SIDE)

# What a page with one block costs without what the block itself needs: the list of pages,
# the page, the list of blocks and the block.
BASE = 4


def book(text):
    """The book of some objects; the root is the object 1."""
    data = list((text + "\nroot @1\n").encode("latin-1"))
    found, _ = read_book(data, len(data))
    return found


def book_with(body, page="", root="", objects=""):
    """A book with one page of 16 cells in each direction."""
    text = f"<</Pages [<</Width {SIDE} /Height {SIDE} /Body [{body}] {page}>>] {root}>>"
    return book(f"#1 {text}\n{objects}")


def pages_of(found, left=ENOUGH):
    return lay_out(found, left)[0]


def page_of(body, page="", root="", objects=""):
    """The only page of a book_with."""
    pages = pages_of(book_with(body, page, root, objects))
    assert len(pages) == 1
    return pages[0]


def marks_of(body, page="", root="", objects=""):
    return list(page_of(body, page, root, objects)[3])


def acts_of(body, page="", root="", objects=""):
    return list(page_of(body, page, root, objects)[4])


def stream_of(data, pairs=""):
    """The text of a stream."""
    return f"<<{pairs}>>{{{len(data)}}}{bytes(data).decode('latin-1')}{{}}"


def corners(x0, y0, x1, y1):
    return (x0, y0), (x1, y0), (x1, y1), (x0, y1)


def box_mark(x0, y0, x1, y1, colour, clip=PAGE_BOX):
    """A fill mark of one outline with four corners, such as a plate."""
    return "fill", clip, (corners(x0, y0, x1, y1),), colour


def sealed(width=1, height=1):
    """The text of a block that leaves one mark, and has a height."""
    return f"<</Kind /Sealed /Width {width} /Height {height}>>"


def sealed_mark(x, y, width=1, height=1, clip=PAGE_BOX):
    return box_mark(x, y, x + 4 * width, y + 4 * height, 8421504, clip)


def act(kind, data=""):
    return kind, tuple(data.encode("latin-1"))


def check_costs(test, found, *costs, reader=False):
    """The pages of a book are there as soon as there is the work for them: costs are those of
    the single pages; that of the list of pages stands with the first one. If a reader stands
    at the end of the last page, it must leave something."""
    pages, left = lay_out(found, ENOUGH)
    test.assertEqual(len(pages), len(costs))
    test.assertEqual(ENOUGH - left, sum(costs))
    ends = [sum(costs[:at + 1]) for at in range(len(costs))]
    for work in range(sum(costs) + 1):
        count = len([end for end in ends if end <= work])
        if work == sum(costs) and reader:
            count -= 1
        test.assertEqual(lay_out(found, work), (pages[:count], 0), work)
    test.assertEqual(lay_out(found, sum(costs) + 9), (pages, 9))
