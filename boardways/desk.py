"""The calls: each answers a new list of one whole number."""

OUT_OF_RANGE = -2
MOST_QUEENS = 64
MOST_COUNTED = 12
LONGEST_SIDE = 32


def queens(n, ring):
    """Whether n queens may stand on n rows and n columns (on a ring, if ring isn't 0): 1 or 0; or -2."""
    if n < 1 or n > MOST_QUEENS:
        return [OUT_OF_RANGE]
    if ring != 0:
        found = queens_fit_ring(n)
    else:
        found = queens_fit_board(n)
    return [1 if found else 0]


def queens_fit_board(n):
    # Two and three are too narrow; from four on there is a way for every size, and one queen has none to see.
    return n != 2 and n != 3


def queens_fit_ring(n):
    # Neither 2 nor 3 divides n: then row i with column 2 * i (counted on behind the side) is a way.
    # Else there is none. With x[i] the column of row i, the rests by n of x[i], of x[i] - i and of
    # x[i] + i would each be all of 0 .. n - 1.
    # 2 divides n: the sum of x[i] - i leaves 0, yet 0 + .. + (n - 1) leaves n // 2.
    # 3 divides n: with S the sum of the squares of 0 .. n - 1, the squares of x[i] - i and of x[i] + i
    # add up to 2 * S, and written out to 4 * S; so n would divide 2 * S = n * (n - 1) * (2 * n - 1) // 3,
    # but 3 divides neither n - 1 nor 2 * n - 1.
    return n % 2 != 0 and n % 3 != 0


def count(n, ring):
    """In how many ways n queens stand on n rows and n columns (on a ring, if ring isn't 0); or -2."""
    if n < 1 or n > MOST_COUNTED:
        return [OUT_OF_RANGE]
    # Cells of one slanted line are those whose x - row (or x + row) leaves the same by this number. On a ring
    # that is n, as the lines go on behind a side; on a board 2 * n - 1, so that no two lines fall together.
    slants = n if ring != 0 else 2 * n - 1
    return [ways_from_row(0, n, slants, 0, 0, 0)]


def ways_from_row(row, n, slants, columns, falling, rising):
    """In how many ways queens may be set in this row and all below; a bit is 1 where a line is taken already."""
    # Nested n + 1 calls deep, so 13 at most.
    if row == n:
        return 1
    ways = 0
    for x in range(n):
        column = 1 << x
        fall = 1 << ((x - row) % slants)
        rise = 1 << ((x + row) % slants)
        if (columns & column) == 0 and (falling & fall) == 0 and (rising & rise) == 0:
            ways += ways_from_row(row + 1, n, slants, columns | column, falling | fall, rising | rise)
    return ways


def tour(m, n, the_round):
    """Whether a knight has a way over m rows and n columns (a way round, if the_round isn't 0): 1 or 0; or -2."""
    if m < 1 or m > LONGEST_SIDE or n < 1 or n > LONGEST_SIDE:
        return [OUT_OF_RANGE]
    # If rows and columns change places, moves are still moves: it matters only which sides there are.
    shorter = min(m, n)
    longer = max(m, n)
    if the_round != 0:
        found = knight_has_way_round(shorter, longer)
    else:
        found = knight_has_way(shorter, longer)
    return [1 if found else 0]


def knight_has_way(shorter, longer):
    # On one row there is no move; on two every move goes on by two columns, so none leads from an even column to
    # an odd one. One cell alone is a way without a move.
    if shorter < 3:
        return longer == 1
    # From three rows on there is a way, but for 3 by 3, 3 by 5, 3 by 6 and 4 by 4: the tests find one for every
    # other board up to LONGEST_SIDE, and none for these.
    if shorter == 3:
        return longer == 4 or longer > 6
    return longer > 4


def knight_has_way_round(shorter, longer):
    # A way round has as many moves as cells, with the one to its first cell. Each move changes whether
    # row + column is even, so an odd number of them never leads home.
    if shorter * longer % 2 != 0:
        return False
    # Of boards with three rows those of 4, 6 and 8 columns have none: the tests try them to the end.
    if shorter == 3:
        return longer > 8
    # One row or two: see above. Four rows: from the outer two every move leads to the inner two, which have as
    # many cells, so a way round takes outer and inner cells by turns. By turns, too, it takes cells with an even
    # and with an odd row + column: so all outer ones would be even, or all odd, and they are not.
    return shorter > 4
